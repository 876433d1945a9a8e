/-
  Contract: the program makes room in a row: the closure of its insert. Conditions: at most 100 rows of at most 100 numbers.
-/
import Derived.Test.YtnhhnffolmgceaaGreatPv20
import Derived.Test.YtnhhnffolmgceaaGreatPv15
import Derived.Test.YtnhhnffolmgceaaGreatPv1
import Derived.Deep.QuietTactic
import Derived.BigQuiet
import Derived.StillTailTactics

namespace Go.Proofs.YtnhhnffolmgceaaGreat.RoomC
open Go.RowKit SeesC IntsC ExactC OrdMath ListsC ListsEC ListsFC LLC RagMarkC RagResC RRC QueM PassM RowsM RRVC

theorem countP_put : ∀ (r : List Int) (x : Int), r.Pairwise (· < ·) → r.countP (fun z => decide (z < x)) = putAt r x
  | [], _, _ => rfl
  | y :: r, x, h => by
    rw [List.pairwise_cons] at h
    unfold putAt
    by_cases hy : y < x
    · rw [List.countP_cons_of_pos (by simpa using hy), countP_put r x h.2, if_pos hy]
    · rw [List.countP_cons_of_neg (by simpa using hy), if_neg hy, List.countP_eq_zero]
      intro z hz
      have := h.1 z hz
      simp
      omega

/-- What the walk below the insert carries: the rows, where they lie, and the number that is to be inserted, in the variables' own cells. -/
def Kept (a3 a6 : Nat) (W : World) (base g N c : Nat) (gs : List (Nat × Nat)) (T : List (List Int)) (y : Int) : Prop :=
  RR W base (.slice (some ⟨g, 0, none⟩) N c) gs T ∧ T.length = N ∧ W.cell? ⟨a6, 0, none⟩ = some (.slice (some ⟨g, 0, none⟩) N c) ∧ W.cell? ⟨a3, 0, none⟩ = some (.int .i64 y) ∧ W.frozen? ⟨a3, 0, none⟩ = false ∧
    a3 < base ∧ (∀ i, i < T.length → (gs.getD i (0, 0)).1 < a6) ∧ g < a6

theorem Kept.drawn {a3 a6 : Nat} {W W' : World} {base g N c : Nat} {gs : List (Nat × Nat)} {T : List (List Int)} {y : Int} (h : Kept a3 a6 W base g N c gs T y) (hd : Drawn W W') : Kept a3 a6 W' base g N c gs T y := by
  obtain ⟨h1, h2, h3, h4, h5, h6⟩ := h
  have hf : W'.frozen? ⟨a3, 0, none⟩ = W.frozen? ⟨a3, 0, none⟩ := by obtain ⟨m, rfl⟩ := hd; rfl
  exact ⟨h1.kept (hd.below _), h2, (hd.cell _).trans h3, (hd.cell _).trans h4, hf.trans h5, h6⟩

/-- The two stores: a number into a row, the old one into the variable. -/
theorem Kept.room {a3 a6 : Nat} {W : World} {base g N c j k : Nat} {gs : List (Nat × Nat)} {T : List (List Int)} {y z : Int} (h : Kept a3 a6 W base g N c gs T y) (hj : j < N) :
    Kept a3 a6 ((W.setCell ⟨(gs.getD j (0, 0)).1, k, none⟩ (.int .i64 y)).setCell ⟨a3, 0, none⟩ (.int .i64 z)) base g N c gs (T.set j ((T.getD j []).set k y)) z ∧
      Below a3 W ((W.setCell ⟨(gs.getD j (0, 0)).1, k, none⟩ (.int .i64 y)).setCell ⟨a3, 0, none⟩ (.int .i64 z)) := by
  obtain ⟨h1, h2, h3, h4, h5, h6, h7, h8⟩ := h
  have hr := rr_put (k := j) (j := k) (y := y) h1 (by omega)
  have hb := (h1.lt (i := j) (by omega)).1
  have h6' := h7 j (by omega)
  have g1 : W.grownBy (W.setCell ⟨(gs.getD j (0, 0)).1, k, none⟩ (.int .i64 y)) (some (gs.getD j (0, 0)).1) := by
    have o1 := h1.2.2.1 j (by omega)
    unfold sl at o1
    exact (World.ownsRow.stored o1 k _).2
  have g2 : (W.setCell ⟨(gs.getD j (0, 0)).1, k, none⟩ (.int .i64 y)).grownBy ((W.setCell ⟨(gs.getD j (0, 0)).1, k, none⟩ (.int .i64 y)).setCell ⟨a3, 0, none⟩ (.int .i64 z)) (some a3) :=
    ⟨rfl, rfl, rfl, by simp [World.setCell], fun q _ hq => Below.heap_setCell _ _ _ _ (fun e => hq (by rw [e]))⟩
  have hgb := (own_block_lt h1.2.1 (q := g) rfl).1
  have hc3 : (W.setCell ⟨(gs.getD j (0, 0)).1, k, none⟩ (.int .i64 y)).cell? ⟨a3, 0, none⟩ = some (.int .i64 y) := g1.cell h4 (by intro e; have := Option.some.inj e; simp only at this; omega)
  have hf3 : (W.setCell ⟨(gs.getD j (0, 0)).1, k, none⟩ (.int .i64 y)).frozen? ⟨a3, 0, none⟩ = false := by
    rw [World.frozen?_of_block (w := W) (g1.block a3 (by have := World.block_lt_of_cell? W _ h4; exact this) (by intro e; have := Option.some.inj e; omega))]
    exact h5
  refine ⟨⟨?_, by simp [h2], ?_, ?_, ?_, h6, fun i hi => h7 i (by simpa using hi), h8⟩, ?_⟩
  · have hlow : ∀ {ty : TypeId} {v : Value} {n : Nat} {xs : List Value}, (W.setCell ⟨(gs.getD j (0, 0)).1, k, none⟩ (.int .i64 y)).ownsRow base ty 1 v n xs → ((W.setCell ⟨(gs.getD j (0, 0)).1, k, none⟩ (.int .i64 y)).setCell ⟨a3, 0, none⟩ (.int .i64 z)).ownsRow base ty 1 v n xs :=
      fun {ty v n xs} ho => ownsRow_setCell_below ho h6 _
    exact ⟨hr.1, hlow hr.2.1, fun i hi => hlow (hr.2.2.1 i hi), hr.2.2.2⟩
  · refine g2.cell (g1.cell h3 ?_) ?_
    · intro e; have := Option.some.inj e; simp only at this; omega
    · intro e; have := Option.some.inj e; simp only at this; omega
  · exact World.cell?_setCell_same _ _ _ hc3
  · rw [World.frozen?_setCell]; exact hf3
  · exact ((Below.refl a3 W).setCell (p := ⟨(gs.getD j (0, 0)).1, k, none⟩) (by simp only; omega) _).setCell (p := ⟨a3, 0, none⟩) (Nat.le_refl _) _

end Go.Proofs.YtnhhnffolmgceaaGreat.RoomC
