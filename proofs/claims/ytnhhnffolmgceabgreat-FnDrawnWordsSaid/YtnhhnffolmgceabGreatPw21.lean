/-
  Contracts and plain facts that the laws' texts lean on. Conditions: as each states.
-/
import Derived.Test.YtnhhnffolmgceabGreatPw15
import Derived.Test.YtnhhnffolmgceabGreatPw12
import Derived.Test.YtnhhnffolmgceabGreatPw8
import Derived.Deep.QuietTactic
import Derived.BigQuiet
import Derived.StillTailTactics
import Derived.IntWalk

section
namespace Go.Proofs.YtnhhnffolmgceabGreat.RoomC
open Go.RowKit SeesC IntsC ExactC OrdMath ListsC ListsEC ListsFC LLC RagMarkC RagResC RRC QueM PassM RowsM RRVC

theorem countP_put : ∀ (r : List Int) (x : Int), r.Pairwise (· < ·) → r.countP (fun z => decide (z < x)) = putAt r x
  | [], _, _ => rfl
  | y :: r, x, h => by
    rw [List.pairwise_cons] at h
    unfold putAt
    by_cases hy : y < x
    · rw [List.countP_cons_of_pos (by simpa using hy), countP_put r x h.2, if_pos hy]
    · rw [List.countP_cons_of_neg (by simpa using hy), if_neg hy, List.countP_eq_zero]
      intro z hz
      have := h.1 z hz
      simp
      omega

/-- What the walk below the insert carries: the rows, where they lie, and the number that is to be inserted, in the variables' own cells. -/
def Kept (a3 a6 : Nat) (W : World) (base g N c : Nat) (gs : List (Nat × Nat)) (T : List (List Int)) (y : Int) : Prop :=
  RR W base (.slice (some ⟨g, 0, none⟩) N c) gs T ∧ T.length = N ∧ W.cell? ⟨a6, 0, none⟩ = some (.slice (some ⟨g, 0, none⟩) N c) ∧ W.cell? ⟨a3, 0, none⟩ = some (.int .i64 y) ∧ W.frozen? ⟨a3, 0, none⟩ = false ∧
    a3 < base ∧ (∀ i, i < T.length → (gs.getD i (0, 0)).1 < a6) ∧ g < a6

theorem Kept.drawn {a3 a6 : Nat} {W W' : World} {base g N c : Nat} {gs : List (Nat × Nat)} {T : List (List Int)} {y : Int} (h : Kept a3 a6 W base g N c gs T y) (hd : Drawn W W') : Kept a3 a6 W' base g N c gs T y := by
  obtain ⟨h1, h2, h3, h4, h5, h6⟩ := h
  have hf : W'.frozen? ⟨a3, 0, none⟩ = W.frozen? ⟨a3, 0, none⟩ := by obtain ⟨m, rfl⟩ := hd; rfl
  exact ⟨h1.kept (hd.below _), h2, (hd.cell _).trans h3, (hd.cell _).trans h4, hf.trans h5, h6⟩

/-- The two stores: a number into a row, the old one into the variable. -/
theorem Kept.room {a3 a6 : Nat} {W : World} {base g N c j k : Nat} {gs : List (Nat × Nat)} {T : List (List Int)} {y z : Int} (h : Kept a3 a6 W base g N c gs T y) (hj : j < N) :
    Kept a3 a6 ((W.setCell ⟨(gs.getD j (0, 0)).1, k, none⟩ (.int .i64 y)).setCell ⟨a3, 0, none⟩ (.int .i64 z)) base g N c gs (T.set j ((T.getD j []).set k y)) z ∧
      Below a3 W ((W.setCell ⟨(gs.getD j (0, 0)).1, k, none⟩ (.int .i64 y)).setCell ⟨a3, 0, none⟩ (.int .i64 z)) := by
  obtain ⟨h1, h2, h3, h4, h5, h6, h7, h8⟩ := h
  have hr := rr_put (k := j) (j := k) (y := y) h1 (by omega)
  have hb := (h1.lt (i := j) (by omega)).1
  have h6' := h7 j (by omega)
  have g1 : W.grownBy (W.setCell ⟨(gs.getD j (0, 0)).1, k, none⟩ (.int .i64 y)) (some (gs.getD j (0, 0)).1) := by
    have o1 := h1.2.2.1 j (by omega)
    unfold sl at o1
    exact (World.ownsRow.stored o1 k _).2
  have g2 : (W.setCell ⟨(gs.getD j (0, 0)).1, k, none⟩ (.int .i64 y)).grownBy ((W.setCell ⟨(gs.getD j (0, 0)).1, k, none⟩ (.int .i64 y)).setCell ⟨a3, 0, none⟩ (.int .i64 z)) (some a3) :=
    ⟨rfl, rfl, rfl, by simp [World.setCell], fun q _ hq => Below.heap_setCell _ _ _ _ (fun e => hq (by rw [e]))⟩
  have hgb := (own_block_lt h1.2.1 (q := g) rfl).1
  have hc3 : (W.setCell ⟨(gs.getD j (0, 0)).1, k, none⟩ (.int .i64 y)).cell? ⟨a3, 0, none⟩ = some (.int .i64 y) := g1.cell h4 (by intro e; have := Option.some.inj e; simp only at this; omega)
  have hf3 : (W.setCell ⟨(gs.getD j (0, 0)).1, k, none⟩ (.int .i64 y)).frozen? ⟨a3, 0, none⟩ = false := by
    rw [World.frozen?_of_block (w := W) (g1.block a3 (by have := World.block_lt_of_cell? W _ h4; exact this) (by intro e; have := Option.some.inj e; omega))]
    exact h5
  refine ⟨⟨?_, by simp [h2], ?_, ?_, ?_, h6, fun i hi => h7 i (by simpa using hi), h8⟩, ?_⟩
  · have hlow : ∀ {ty : TypeId} {v : Value} {n : Nat} {xs : List Value}, (W.setCell ⟨(gs.getD j (0, 0)).1, k, none⟩ (.int .i64 y)).ownsRow base ty 1 v n xs → ((W.setCell ⟨(gs.getD j (0, 0)).1, k, none⟩ (.int .i64 y)).setCell ⟨a3, 0, none⟩ (.int .i64 z)).ownsRow base ty 1 v n xs :=
      fun {ty v n xs} ho => ownsRow_setCell_below ho h6 _
    exact ⟨hr.1, hlow hr.2.1, fun i hi => hlow (hr.2.2.1 i hi), hr.2.2.2⟩
  · refine g2.cell (g1.cell h3 ?_) ?_
    · intro e; have := Option.some.inj e; simp only at this; omega
    · intro e; have := Option.some.inj e; simp only at this; omega
  · exact World.cell?_setCell_same _ _ _ hc3
  · rw [World.frozen?_setCell]; exact hf3
  · exact ((Below.refl a3 W).setCell (p := ⟨(gs.getD j (0, 0)).1, k, none⟩) (by simp only; omega) _).setCell (p := ⟨a3, 0, none⟩) (Nat.le_refl _) _

end Go.Proofs.YtnhhnffolmgceabGreat.RoomC

end

section
namespace Go.Proofs.YtnhhnffolmgceabGreat.TakeIC
open Go.RowKit SeesC IntsC ExactC OrdMath ListsC ListsEC ListsFC LLC RagMarkC RagResC RRC QueM PassM RowsM RRVC RoomC AreM OutM

theorem take_upd {T : List (List Int)} {i : Nat} {A : List (List Int)} {r : List Int} (hi : i < T.length) : (T.take (i + 1) ++ A).set i r = T.take i ++ r :: A := by
  rw [List.take_succ_eq_append_getElem hi, List.append_assoc, List.set_append_right _ _ (by rw [List.length_take]; omega), List.length_take, Nat.min_eq_left (by omega), Nat.sub_self]
  rfl

theorem take_at {T : List (List Int)} {i : Nat} {A : List (List Int)} (hi : i < T.length) : (T.take (i + 1) ++ A).getD i [] = T.getD i [] := by
  rw [List.getD_eq_getElem?_getD, List.getElem?_append_left (by rw [List.length_take]; omega), List.getElem?_take, if_pos (by omega), ← List.getD_eq_getElem?_getD]

theorem drop_getD {T : List (List Int)} {i : Nat} (hi : i < T.length) : T.drop i = T.getD i [] :: T.drop (i + 1) := by
  rw [List.drop_eq_getElem_cons hi]; simp [hi]

theorem tab_drop : ∀ {T : List (List Int)} (i : Nat), Tab T → Tab (T.drop i)
  | [], i, _ => by simp; trivial
  | r :: R, 0, h => h
  | r :: R, i + 1, h => tab_drop (T := R) i (tab_tail h)

theorem nodup_drop {T : List (List Int)} (i : Nat) (h : T.flatten.Nodup) : (T.drop i).flatten.Nodup := by
  have : T.flatten = (T.take i).flatten ++ (T.drop i).flatten := by rw [← List.flatten_append, List.take_append_drop]
  rw [this] at h
  exact (List.nodup_append.1 h).2.1

/-- The step upward: what comes up fits into the row above. -/
theorem up_step {T : List (List Int)} {i k : Nat} (ht : Tab T) (hn : T.flatten.Nodup) (hi : i < k) (hk : k < T.length) (h0 : 0 < (T.getD k []).length) :
    1 ≤ putAt (T.getD i []) (outR (T.drop (i + 1)) (k - (i + 1))).2 ∧ (outR (T.drop (i + 1)) (k - (i + 1))).2 ∉ T.getD i [] ∧ 0 < (T.getD i []).length ∧ (T.getD i []).Pairwise (· < ·) := by
  have e1 := drop_getD (T := T) (i := i) (by omega)
  have e2 := drop_getD (T := T) (i := i + 1) (by omega)
  have t1 := tab_drop i ht
  have n1 := nodup_drop i hn
  rw [e1, e2] at t1 n1
  have hkk : k - (i + 1) < (T.getD (i + 1) [] :: T.drop (i + 1 + 1)).length := by rw [← e2, List.length_drop]; omega
  have hg : ∀ q, (T.getD (i + 1) [] :: T.drop (i + 1 + 1)).getD q [] = T.getD (i + 1 + q) [] := by
    intro q
    rw [← e2, List.getD_eq_getElem?_getD, List.getElem?_drop, ← List.getD_eq_getElem?_getD]
  have hpos : 0 < ((T.getD (i + 1) [] :: T.drop (i + 1 + 1)).getD (k - (i + 1)) []).length := by
    rw [hg, show i + 1 + (k - (i + 1)) = k by omega]; exact h0
  have hup := outR_up t1 hkk hpos
  have hx := out_notin n1 hkk (tab_pos (tab_tail t1) hkk hpos)
  rw [← e2] at hup hx
  exact ⟨hup.2.2, hx, hup.1, tab_head t1⟩

/-- Rows taken out so far: from row i on. -/
def Up (T : List (List Int)) (k i : Nat) : List (List Int) := T.take i ++ (outR (T.drop i) (k - i)).1

theorem up_len {T : List (List Int)} {k i : Nat} (hi : i ≤ T.length) : (Up T k i).length = T.length := by
  unfold Up; rw [List.length_append, outR_len, List.length_take, List.length_drop]; omega

theorem up_start {T : List (List Int)} {k : Nat} (hk : k < T.length) : Up T k k = T.set k (T.getD k []).dropLast ∧ (outR (T.drop k) (k - k)).2 = last (T.getD k []) := by
  rw [Nat.sub_self]
  unfold Up
  rw [Nat.sub_self, drop_getD hk]
  refine ⟨?_, rfl⟩
  show T.take k ++ (T.getD k []).dropLast :: T.drop (k + 1) = _
  rw [List.set_eq_take_append_cons_drop, if_pos hk]

theorem up_next {T : List (List Int)} {k i : Nat} (hi : i < k) (hk : k < T.length) :
    Up T k i = (Up T k (i + 1)).set i ((T.getD i []).set (putAt (T.getD i []) (outR (T.drop (i + 1)) (k - (i + 1))).2 - 1) (outR (T.drop (i + 1)) (k - (i + 1))).2) ∧
      (outR (T.drop i) (k - i)).2 = (T.getD i []).getD (putAt (T.getD i []) (outR (T.drop (i + 1)) (k - (i + 1))).2 - 1) 0 ∧ (Up T k (i + 1)).getD i [] = T.getD i [] := by
  have e : k - i = (k - (i + 1)) + 1 := by omega
  refine ⟨?_, ?_, take_at (by omega)⟩
  · unfold Up
    rw [take_upd (by omega), drop_getD (i := i) (by omega), e]
    rfl
  · rw [drop_getD (i := i) (by omega), e]
    rfl

/-- A row cut by its last number, its header stored. -/
theorem rr_pop {X : World} {base g N c k m p1 p2 : Nat} {gs : List (Nat × Nat)} {T : List (List Int)} (hN : T.length = N) (h : RR X base (.slice (some ⟨g, 0, none⟩) N c) gs T) (hk : k < N) (hm : (T.getD k []).length = m + 1) (hp : gs.getD k (0, 0) = (p1, p2)) :
    RR (X.setCell ⟨g, k, none⟩ (.slice (some ⟨p1, 0, none⟩) m p2)) base (.slice (some ⟨g, 0, none⟩) N c) (gs.set k (p1, p2)) (T.set k (T.getD k []).dropLast) ∧ m + 1 ≤ p2 ∧ X.frozen? ⟨g, k, none⟩ = false ∧ base ≤ g := by
  have hrow := h.2.2.1 k (by omega)
  rw [hp, hm] at hrow
  have hcut := own_cut hrow (show m ≤ m + 1 by omega)
  have el : (T.getD k []).dropLast.length = m := by rw [List.length_dropLast, hm]; rfl
  have ev : (vals (T.getD k [])).take m = vals (T.getD k []).dropLast := by
    rw [List.dropLast_eq_take, hm, Nat.add_sub_cancel]; unfold vals; rw [List.map_take]
  rw [ev] at hcut
  have h1 := rr_set (X' := X) (g' := p1) (c' := p2) (r := (T.getD k []).dropLast) hN h hk (by rw [el]; exact hcut) ⟨rfl, rfl, rfl, Nat.le_refl _, fun _ _ _ => rfl⟩ (.inl (by rw [hp]))
  rw [el] at h1
  have ho := h.2.1
  refine ⟨h1, ?_, ?_, (own_block_lt h.2.1 (q := g) rfl).1⟩
  · rcases hrow.2 with ⟨h0, _⟩ | ⟨g', cap, cur, hv, _, _, hc, _⟩
    · unfold sl at h0; cases h0
    · unfold sl at hv; cases hv; exact hc
  · rw [hN] at ho; exact ho.frozenAt k

end Go.Proofs.YtnhhnffolmgceabGreat.TakeIC

end

section
namespace Go.Proofs.YtnhhnffolmgceabGreat.TakeSC
open Go.RowKit SeesC IntsC ExactC OrdMath ListsC ListsEC ListsFC LLC RagMarkC RagResC RRC QueM PassM RowsM RRVC RoomC AreM OutM TakeIC OnlyC

theorem desc_test {r : List Int} {x : Int} {q j : Nat} (hr : r.Pairwise (· < ·)) (hx : x ∉ r) (hq : putAt r x = q + 1) (hj : j < r.length) : (q < j → x < r.getD j 0) ∧ (j ≤ q → r.getD j 0 < x) := by
  refine ⟨fun h => ?_, fun h => putAt_lt r x j (by omega)⟩
  have h1 : x ≤ r.getD j 0 := Int.not_lt.1 (fun h3 => by have := putAt_more hr hj h3; omega)
  have h2 : r.getD j 0 ∈ r := getD_mem hj
  have h3 : x ≠ r.getD j 0 := fun e => hx (e ▸ h2)
  omega

end Go.Proofs.YtnhhnffolmgceabGreat.TakeSC

end

section
namespace Go.Proofs.YtnhhnffolmgceabGreat.EndRowC
open Go.RowKit SeesC IntsC ExactC OrdMath ListsC ListsEC ListsFC LLC RagMarkC RagResC RRC QueM PassM RowsM RRVC AreM OutM

end Go.Proofs.YtnhhnffolmgceabGreat.EndRowC

end
