/-
  Ragged lists of a call's own, with the rows' places: a row more, a row of another length, a number put into a row. Plain facts on worlds. Conditions: none.
-/
import Derived.Test.YtpkjnlabjmpokaaPx30
import Derived.Test.YtpkjnlabjmpokaaPx4

namespace Go.Proofs.Ytpkjnlabjmpokaa.RRC
open Go.RowKit SeesC IntsC ExactC ListsC ListsEC ListsFC LLC RagMarkC RagResC

/-- The rows' own values. -/
def rowsOf (L : List (List Int)) (gs : List (Nat × Nat)) : List Value := (List.range L.length).map fun i => sl (L.getD i []).length (gs.getD i (0, 0))

/-- Ragged lists that are owned, row i at the place gs i. -/
def RR (w : World) (base : Nat) (v : Value) (gs : List (Nat × Nat)) (L : List (List Int)) : Prop :=
  gs.length = L.length ∧ w.ownsRow base 22 1 v L.length (rowsOf L gs) ∧
    (∀ i, i < L.length → w.ownsRow base 3 1 (sl (L.getD i []).length (gs.getD i (0, 0))) (L.getD i []).length (vals (L.getD i []))) ∧ (gs.map (·.1)).Nodup

theorem rr_rag {w : World} {base : Nat} {v : Value} {gs : List (Nat × Nat)} {L : List (List Int)} (h : RR w base v gs L) : Rag w base v L := ⟨gs, h.1, h.2.1, h.2.2.1, h.2.2.2⟩
theorem rag_rr {w : World} {base : Nat} {v : Value} {L : List (List Int)} (h : Rag w base v L) : ∃ gs, RR w base v gs L := by
  obtain ⟨gs, h1, h2, h3, h4⟩ := h; exact ⟨gs, h1, h2, h3, h4⟩

theorem RR.kept {w w' : World} {base : Nat} {v : Value} {gs : List (Nat × Nat)} {L : List (List Int)} (h : RR w base v gs L) (hb : Below w.heap.size w w') : RR w' base v gs L :=
  ⟨h.1, kept_call h.2.1 hb, fun i hi => kept_call (h.2.2.1 i hi) hb, h.2.2.2⟩

theorem RR.lt {w : World} {base : Nat} {v : Value} {gs : List (Nat × Nat)} {L : List (List Int)} (h : RR w base v gs L) {i : Nat} (hi : i < L.length) : base ≤ (gs.getD i (0, 0)).1 ∧ (gs.getD i (0, 0)).1 < w.heap.size :=
  own_block_lt (h.2.2.1 i hi) (q := (gs.getD i (0, 0)).1) rfl

theorem rowsOf_len (L : List (List Int)) (gs : List (Nat × Nat)) : (rowsOf L gs).length = L.length := by simp [rowsOf]

theorem rowsOf_at {L : List (List Int)} {gs : List (Nat × Nat)} {i : Nat} (hi : i < L.length) : (rowsOf L gs)[i]? = some (sl (L.getD i []).length (gs.getD i (0, 0))) := by
  unfold rowsOf
  rw [List.getElem?_map, List.getElem?_range hi]; rfl

/-- A row's header, where the lists lie. -/
theorem RR.head {w : World} {base g N c : Nat} {gs : List (Nat × Nat)} {L : List (List Int)} (h : RR w base (.slice (some ⟨g, 0, none⟩) N c) gs L) (hN : L.length = N) {i : Nat} (hi : i < N) :
    w.cell? ⟨g, i, none⟩ = some (.slice (some ⟨(gs.getD i (0, 0)).1, 0, none⟩) (L.getD i []).length (gs.getD i (0, 0)).2) := by
  have h2 := h.2.1
  rw [hN] at h2
  rw [h2.cellAt i (by omega), rowsOf_at (by omega)]; rfl

/-- A number in a row. -/
theorem RR.num {w : World} {base : Nat} {v : Value} {gs : List (Nat × Nat)} {L : List (List Int)} (h : RR w base v gs L) {i j : Nat} (hi : i < L.length) (hj : j < (L.getD i []).length) :
    w.cell? ⟨(gs.getD i (0, 0)).1, j, none⟩ = some (.int .i64 ((L.getD i []).getD j 0)) := by
  have h2 := h.2.2.1 i hi
  unfold sl at h2
  rw [h2.cellAt j (by omega)]
  rw [List.getElem?_map, List.getElem?_eq_getElem hj, List.getD_eq_getElem?_getD (l := L.getD i []), List.getElem?_eq_getElem hj]
  rfl

theorem getD_cat_l {α : Type} {d : α} {A B : List α} {i : Nat} (h : i < A.length) : (A ++ B).getD i d = A.getD i d := by
  rw [List.getD_eq_getElem?_getD, List.getElem?_append_left h, ← List.getD_eq_getElem?_getD]
theorem getD_cat_r {α : Type} {d x : α} {A : List α} : (A ++ [x]).getD A.length d = x := by
  rw [List.getD_eq_getElem?_getD, List.getElem?_append_right (Nat.le_refl _)]; simp
theorem getD_set_eq {α : Type} {d x : α} {A : List α} {i : Nat} (h : i < A.length) : (A.set i x).getD i d = x := by
  rw [List.getD_eq_getElem?_getD, List.getElem?_set]; simp [h]
theorem getD_set_ne {α : Type} {d x : α} {A : List α} {i j : Nat} (h : i ≠ j) : (A.set i x).getD j d = A.getD j d := by
  rw [List.getD_eq_getElem?_getD, List.getElem?_set, if_neg h, ← List.getD_eq_getElem?_getD]

/-- A row more. -/
theorem rr_snoc {X X' : World} {base N : Nat} {v v5 : Value} {gs : List (Nat × Nat)} {p : Nat × Nat} {L : List (List Int)} {q : List Int}
    (hN : L.length = N) (h : RR X base v gs L) (hp : X.ownsRow base 3 1 (sl q.length p) q.length (vals q)) (hfresh : ∀ i, i < N → (gs.getD i (0, 0)).1 ≠ p.1)
    (ho5 : X'.ownsRow base 22 1 v5 (N + 1) (rowsOf L gs ++ [sl q.length p])) (hgrow : X.grownBy X' v.ownBlock) : RR X' base v5 (gs ++ [p]) (L ++ [q]) := by
  obtain ⟨h1, h2, h3, h4⟩ := h
  subst hN
  refine ⟨by simp [h1], ?_, ?_, ?_⟩
  · have e : rowsOf (L ++ [q]) (gs ++ [p]) = rowsOf L gs ++ [sl q.length p] := by
      unfold rowsOf
      rw [List.length_append, List.length_singleton, List.range_succ, List.map_append]
      congr 1
      · apply List.map_congr_left
        intro i hi
        rw [List.mem_range] at hi
        rw [getD_cat_l hi, getD_cat_l (by rw [h1]; exact hi)]
      · simp only [List.map_cons, List.map_nil]
        rw [getD_cat_r, ← h1, getD_cat_r]
    rw [e, List.length_append]
    exact ho5
  · intro i hi
    rw [List.length_append, List.length_singleton] at hi
    by_cases h : i < L.length
    · rw [getD_cat_l h, getD_cat_l (by rw [h1]; exact h)]
      exact own_mark (h3 i h) hgrow (fun a ha e => own_types h2 (h3 i h) (by decide) e ha)
    · have hi2 : i = L.length := by omega
      subst hi2
      rw [getD_cat_r, ← h1, getD_cat_r]
      exact own_mark hp hgrow (fun a ha e => own_types h2 hp (by decide) e ha)
  · rw [List.map_append, List.nodup_append]
    refine ⟨h4, by simp, ?_⟩
    intro a ha b hb e
    simp at hb
    subst hb
    obtain ⟨r, hr, rfl⟩ := List.mem_map.1 ha
    obtain ⟨i, hi, hir⟩ := List.mem_iff_getElem.1 hr
    have h5 := hfresh i (by omega)
    have h6 : gs.getD i (0, 0) = r := by rw [← hir]; simp [hi]
    rw [h6] at h5
    exact h5 e

theorem nodup_set_fst {gs : List (Nat × Nat)} {k : Nat} {p : Nat × Nat} (h : (gs.map (·.1)).Nodup) (hp : ∀ j, j < gs.length → j ≠ k → (gs.getD j (0, 0)).1 ≠ p.1) : ((gs.set k p).map (·.1)).Nodup := by
  rw [List.nodup_iff_pairwise_ne, List.pairwise_iff_getElem]
  intro i j hi hj hij
  simp at hi hj
  simp only [List.getElem_map, List.getElem_set]
  have h2 : ∀ a b, a < gs.length → b < gs.length → a ≠ b → (gs.getD a (0, 0)).1 ≠ (gs.getD b (0, 0)).1 := fun a b ha hb hab => nodup_ne h ha hb hab
  have e1 : ∀ a (ha : a < gs.length), gs[a] = gs.getD a (0, 0) := fun a ha => by simp [ha]
  by_cases c1 : k = i
  · rw [if_pos c1, if_neg (by omega), e1 j hj]
    exact fun e => hp j hj (by omega) e.symm
  · by_cases c2 : k = j
    · rw [if_neg c1, if_pos c2, e1 i hi]
      exact hp i hi (by omega)
    · rw [if_neg c1, if_neg c2, e1 i hi, e1 j hj]
      exact h2 i j hi hj (by omega)

/-- A row becomes another: its numbers lie in X', its header is stored. -/
theorem rr_set {X X' : World} {base g N c k g' c' : Nat} {gs : List (Nat × Nat)} {L : List (List Int)} {r : List Int}
    (hN : L.length = N) (h : RR X base (.slice (some ⟨g, 0, none⟩) N c) gs L) (hk : k < N) (ho : X'.ownsRow base 3 1 (sl r.length (g', c')) r.length (vals r))
    (hg : X.grownBy X' (some (gs.getD k (0, 0)).1)) (hnew : g' = (gs.getD k (0, 0)).1 ∨ X.heap.size ≤ g') :
    RR (X'.setCell ⟨g, k, none⟩ (.slice (some ⟨g', 0, none⟩) r.length c')) base (.slice (some ⟨g, 0, none⟩) N c) (gs.set k (g', c')) (L.set k r) := by
  have hlt := fun i (hi : i < L.length) => h.lt hi
  obtain ⟨h1, h2, h3, h4⟩ := h
  subst hN
  have o1 : X'.ownsRow base 22 1 (.slice (some ⟨g, 0, none⟩) L.length c) L.length (rowsOf L gs) := own_mark h2 hg (fun a ha e => own_types h2 (h3 k hk) (by decide) ha e)
  have o2 := World.ownsRow.stored o1 k (.slice (some ⟨g', 0, none⟩) r.length c')
  refine ⟨by simp [h1], ?_, ?_, ?_⟩
  · have e : rowsOf (L.set k r) (gs.set k (g', c')) = (rowsOf L gs).set k (.slice (some ⟨g', 0, none⟩) r.length c') := by
      apply List.ext_getElem?
      intro i
      by_cases hi : i < L.length
      · rw [rowsOf_at (by simpa using hi), List.getElem?_set]
        by_cases hik : k = i
        · subst hik
          rw [if_pos rfl, if_pos (by rw [rowsOf_len]; exact hi), getD_set_eq hi, getD_set_eq (by omega)]; rfl
        · rw [if_neg hik, rowsOf_at hi, getD_set_ne hik, getD_set_ne hik]
      · rw [List.getElem?_eq_none (by rw [rowsOf_len]; simp; omega), List.getElem?_eq_none (by simp [rowsOf_len]; omega)]
    rw [e, List.length_set]
    exact o2.1
  · intro i hi
    rw [List.length_set] at hi
    by_cases hik : k = i
    · subst hik
      rw [getD_set_eq hi, getD_set_eq (by omega)]
      exact own_mark ho o2.2 (fun a ha e => own_types o1 ho (by decide) e ha)
    · rw [getD_set_ne hik, getD_set_ne hik]
      have o3 : X'.ownsRow base 3 1 (sl (L.getD i []).length (gs.getD i (0, 0))) (L.getD i []).length (vals (L.getD i [])) := own_mark (h3 i hi) hg (fun a ha e => by
        have e2 := nodup_ne h4 (i := i) (j := k) (by omega) (by omega) (fun x => hik x.symm)
        have e3 : (gs.getD i (0, 0)).1 = a := Option.some.inj ha
        have e4 := Option.some.inj e
        omega)
      exact own_mark o3 o2.2 (fun a ha e => own_types o1 o3 (by decide) e ha)
  · refine nodup_set_fst h4 (fun j hj hjk => ?_)
    have e1 := hlt j (by omega)
    have e2 := nodup_ne h4 (i := j) (j := k) hj (by omega) hjk
    rcases hnew with h | h
    · rw [h]; exact e2
    · show _ ≠ g'
      omega

/-- A number is put into a row. -/
theorem rr_put {X : World} {base k j : Nat} {v : Value} {gs : List (Nat × Nat)} {L : List (List Int)} {y : Int}
    (h : RR X base v gs L) (hk : k < L.length) :
    RR (X.setCell ⟨(gs.getD k (0, 0)).1, j, none⟩ (.int .i64 y)) base v gs (L.set k ((L.getD k []).set j y)) := by
  obtain ⟨h1, h2, h3, h4⟩ := h
  have hok := h3 k hk
  unfold sl at hok
  have o2 := World.ownsRow.stored hok j (.int .i64 y)
  have hlen : ∀ i, ((L.set k ((L.getD k []).set j y)).getD i []).length = (L.getD i []).length := by
    intro i
    by_cases hik : k = i
    · subst hik; rw [getD_set_eq hk]; simp
    · rw [getD_set_ne hik]
  refine ⟨by simp [h1], ?_, ?_, h4⟩
  · have e : rowsOf (L.set k ((L.getD k []).set j y)) gs = rowsOf L gs := by
      unfold rowsOf
      rw [List.length_set]
      apply List.map_congr_left
      intro i _
      rw [hlen i]
    rw [e, List.length_set]
    exact own_mark h2 o2.2 (fun a ha e => own_types h2 (h3 k hk) (by decide) ha (by cases e; rfl))
  · intro i hi
    rw [List.length_set] at hi
    rw [hlen i]
    by_cases hik : k = i
    · subst hik
      rw [getD_set_eq hk]
      have e : vals ((L.getD k []).set j y) = (vals (L.getD k [])).set j (.int .i64 y) := by unfold vals; rw [List.map_set]
      rw [e]
      exact o2.1
    · rw [getD_set_ne hik]
      exact own_mark (h3 i hi) o2.2 (fun a ha e => by
        have e2 := nodup_ne h4 (i := i) (j := k) (by omega) (by omega) (fun x => hik x.symm)
        have e3 : (gs.getD i (0, 0)).1 = a := Option.some.inj ha
        have e4 := Option.some.inj e
        omega)

/-- A beginning of a row. -/
theorem own_cut {w : World} {base m j : Nat} {ty : TypeId} {p : Nat × Nat} {xs : List Value} (h : w.ownsRow base ty 1 (sl m p) m xs) (hj : j ≤ m) : w.ownsRow base ty 1 (sl j p) j (xs.take j) := by
  have hl : xs.length = m := by simpa using h.1
  refine ⟨by rw [List.length_take]; omega, .inr ?_⟩
  rcases h.2 with ⟨h0, _⟩ | ⟨g, cap, cur, hv, hb, hh, hnc, hcm, hcs, ht⟩
  · unfold sl at h0; cases h0
  · unfold sl at hv
    cases hv
    refine ⟨p.1, p.2, cur, rfl, hb, hh, by omega, hcm, hcs, ?_⟩
    rw [← ht, List.take_take]
    congr 1
    omega

theorem rag_of_mid {w w' : World} {b D base : Nat} {v : Value} {L : List (List Int)} (h : Rag w base v L) (hm : Mid b D w w') (hD : D ≤ base) : Rag w' base v L := by
  obtain ⟨gs, h1, h2, h3, h4⟩ := h
  exact ⟨gs, h1, hm.own h2 (fun q hq => .inr (by have := (own_block_lt h2 hq).1; omega)), fun i hi => hm.own (h3 i hi) (fun q hq => .inr (by have := (own_block_lt (h3 i hi) hq).1; omega)), h4⟩

theorem mid_trans {base D : Nat} {a b c : World} (h : Mid base D a b) (k : Mid base D b c) : Mid base D a c :=
  ⟨k.os.trans h.os, k.tape.trans h.tape, k.output.trans h.output, Nat.le_trans h.size k.size, fun q hq hb => (k.block q (Nat.lt_of_lt_of_le hq h.size) hb).trans (h.block q hq hb)⟩

/-- What has been written lies in the middle or is new. -/
theorem mid_grown {base D : Nat} {a b c : World} {row : Option Nat} (h : Mid base D a b) (hg : b.grownBy c row) (hr : ∀ q, row = some q → a.heap.size ≤ q ∨ (base ≤ q ∧ q < D)) : Mid base D a c :=
  ⟨hg.os.trans h.os, hg.tape.trans h.tape, hg.output.trans h.output, Nat.le_trans h.size hg.size, fun q hq hb => (hg.block q (Nat.lt_of_lt_of_le hq h.size) (fun e => by have := hr q e.symm; omega)).trans (h.block q hq hb)⟩

theorem mid_more {base D : Nat} {a b c : World} (h : Mid base D a b) (hb : Below b.heap.size b c) : Mid base D a c :=
  mid_grown h (grown_of_below hb none) (fun q e => by cases e)

theorem mid_wide {base D D' : Nat} {a b : World} (h : Mid base D a b) (hD : D ≤ D') : Mid base D' a b :=
  ⟨h.os, h.tape, h.output, h.size, fun q hq hb => h.block q hq (by omega)⟩

end Go.Proofs.Ytpkjnlabjmpokaa.RRC
