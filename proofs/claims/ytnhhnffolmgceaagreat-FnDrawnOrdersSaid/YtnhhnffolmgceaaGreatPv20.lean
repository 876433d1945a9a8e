/-
  Contracts and plain facts that the laws' texts lean on. Conditions: as each states.
-/
import Derived.Test.YtnhhnffolmgceaaGreatPv15
import Derived.Test.YtnhhnffolmgceaaGreatPv2
import Derived.Maps.AppendAt
import Derived.Laws.CopyOwn

section
namespace Go.Proofs.YtnhhnffolmgceaaGreat.RRC
open Go.RowKit SeesC IntsC ExactC ListsC ListsEC ListsFC LLC RagMarkC RagResC

/-- The rows' own values. -/
def rowsOf (L : List (List Int)) (gs : List (Nat × Nat)) : List Value := (List.range L.length).map fun i => sl (L.getD i []).length (gs.getD i (0, 0))

/-- Ragged lists that are owned, row i at the place gs i. -/
def RR (w : World) (base : Nat) (v : Value) (gs : List (Nat × Nat)) (L : List (List Int)) : Prop :=
  gs.length = L.length ∧ w.ownsRow base 36 1 v L.length (rowsOf L gs) ∧
    (∀ i, i < L.length → w.ownsRow base 3 1 (sl (L.getD i []).length (gs.getD i (0, 0))) (L.getD i []).length (vals (L.getD i []))) ∧ (gs.map (·.1)).Nodup

theorem rr_rag {w : World} {base : Nat} {v : Value} {gs : List (Nat × Nat)} {L : List (List Int)} (h : RR w base v gs L) : Rag w base v L := ⟨gs, h.1, h.2.1, h.2.2.1, h.2.2.2⟩
theorem rag_rr {w : World} {base : Nat} {v : Value} {L : List (List Int)} (h : Rag w base v L) : ∃ gs, RR w base v gs L := by
  obtain ⟨gs, h1, h2, h3, h4⟩ := h; exact ⟨gs, h1, h2, h3, h4⟩

theorem RR.kept {w w' : World} {base : Nat} {v : Value} {gs : List (Nat × Nat)} {L : List (List Int)} (h : RR w base v gs L) (hb : Below w.heap.size w w') : RR w' base v gs L :=
  ⟨h.1, kept_call h.2.1 hb, fun i hi => kept_call (h.2.2.1 i hi) hb, h.2.2.2⟩

theorem RR.lt {w : World} {base : Nat} {v : Value} {gs : List (Nat × Nat)} {L : List (List Int)} (h : RR w base v gs L) {i : Nat} (hi : i < L.length) : base ≤ (gs.getD i (0, 0)).1 ∧ (gs.getD i (0, 0)).1 < w.heap.size :=
  own_block_lt (h.2.2.1 i hi) (q := (gs.getD i (0, 0)).1) rfl

theorem rowsOf_len (L : List (List Int)) (gs : List (Nat × Nat)) : (rowsOf L gs).length = L.length := by simp [rowsOf]

theorem rowsOf_at {L : List (List Int)} {gs : List (Nat × Nat)} {i : Nat} (hi : i < L.length) : (rowsOf L gs)[i]? = some (sl (L.getD i []).length (gs.getD i (0, 0))) := by
  unfold rowsOf
  rw [List.getElem?_map, List.getElem?_range hi]; rfl

/-- A row's header, where the lists lie. -/
theorem RR.head {w : World} {base g N c : Nat} {gs : List (Nat × Nat)} {L : List (List Int)} (h : RR w base (.slice (some ⟨g, 0, none⟩) N c) gs L) (hN : L.length = N) {i : Nat} (hi : i < N) :
    w.cell? ⟨g, i, none⟩ = some (.slice (some ⟨(gs.getD i (0, 0)).1, 0, none⟩) (L.getD i []).length (gs.getD i (0, 0)).2) := by
  have h2 := h.2.1
  rw [hN] at h2
  rw [h2.cellAt i (by omega), rowsOf_at (by omega)]; rfl

/-- A number in a row. -/
theorem RR.num {w : World} {base : Nat} {v : Value} {gs : List (Nat × Nat)} {L : List (List Int)} (h : RR w base v gs L) {i j : Nat} (hi : i < L.length) (hj : j < (L.getD i []).length) :
    w.cell? ⟨(gs.getD i (0, 0)).1, j, none⟩ = some (.int .i64 ((L.getD i []).getD j 0)) := by
  have h2 := h.2.2.1 i hi
  unfold sl at h2
  rw [h2.cellAt j (by omega)]
  rw [List.getElem?_map, List.getElem?_eq_getElem hj, List.getD_eq_getElem?_getD (l := L.getD i []), List.getElem?_eq_getElem hj]
  rfl

theorem getD_cat_l {α : Type} {d : α} {A B : List α} {i : Nat} (h : i < A.length) : (A ++ B).getD i d = A.getD i d := by
  rw [List.getD_eq_getElem?_getD, List.getElem?_append_left h, ← List.getD_eq_getElem?_getD]
theorem getD_cat_r {α : Type} {d x : α} {A : List α} : (A ++ [x]).getD A.length d = x := by
  rw [List.getD_eq_getElem?_getD, List.getElem?_append_right (Nat.le_refl _)]; simp
theorem getD_set_eq {α : Type} {d x : α} {A : List α} {i : Nat} (h : i < A.length) : (A.set i x).getD i d = x := by
  rw [List.getD_eq_getElem?_getD, List.getElem?_set]; simp [h]
theorem getD_set_ne {α : Type} {d x : α} {A : List α} {i j : Nat} (h : i ≠ j) : (A.set i x).getD j d = A.getD j d := by
  rw [List.getD_eq_getElem?_getD, List.getElem?_set, if_neg h, ← List.getD_eq_getElem?_getD]

/-- A row more. -/
theorem rr_snoc {X X' : World} {base N : Nat} {v v5 : Value} {gs : List (Nat × Nat)} {p : Nat × Nat} {L : List (List Int)} {q : List Int}
    (hN : L.length = N) (h : RR X base v gs L) (hp : X.ownsRow base 3 1 (sl q.length p) q.length (vals q)) (hfresh : ∀ i, i < N → (gs.getD i (0, 0)).1 ≠ p.1)
    (ho5 : X'.ownsRow base 36 1 v5 (N + 1) (rowsOf L gs ++ [sl q.length p])) (hgrow : X.grownBy X' v.ownBlock) : RR X' base v5 (gs ++ [p]) (L ++ [q]) := by
  obtain ⟨h1, h2, h3, h4⟩ := h
  subst hN
  refine ⟨by simp [h1], ?_, ?_, ?_⟩
  · have e : rowsOf (L ++ [q]) (gs ++ [p]) = rowsOf L gs ++ [sl q.length p] := by
      unfold rowsOf
      rw [List.length_append, List.length_singleton, List.range_succ, List.map_append]
      congr 1
      · apply List.map_congr_left
        intro i hi
        rw [List.mem_range] at hi
        rw [getD_cat_l hi, getD_cat_l (by rw [h1]; exact hi)]
      · simp only [List.map_cons, List.map_nil]
        rw [getD_cat_r, ← h1, getD_cat_r]
    rw [e, List.length_append]
    exact ho5
  · intro i hi
    rw [List.length_append, List.length_singleton] at hi
    by_cases h : i < L.length
    · rw [getD_cat_l h, getD_cat_l (by rw [h1]; exact h)]
      exact own_mark (h3 i h) hgrow (fun a ha e => own_types h2 (h3 i h) (by decide) e ha)
    · have hi2 : i = L.length := by omega
      subst hi2
      rw [getD_cat_r, ← h1, getD_cat_r]
      exact own_mark hp hgrow (fun a ha e => own_types h2 hp (by decide) e ha)
  · rw [List.map_append, List.nodup_append]
    refine ⟨h4, by simp, ?_⟩
    intro a ha b hb e
    simp at hb
    subst hb
    obtain ⟨r, hr, rfl⟩ := List.mem_map.1 ha
    obtain ⟨i, hi, hir⟩ := List.mem_iff_getElem.1 hr
    have h5 := hfresh i (by omega)
    have h6 : gs.getD i (0, 0) = r := by rw [← hir]; simp [hi]
    rw [h6] at h5
    exact h5 e

theorem nodup_set_fst {gs : List (Nat × Nat)} {k : Nat} {p : Nat × Nat} (h : (gs.map (·.1)).Nodup) (hp : ∀ j, j < gs.length → j ≠ k → (gs.getD j (0, 0)).1 ≠ p.1) : ((gs.set k p).map (·.1)).Nodup := by
  rw [List.nodup_iff_pairwise_ne, List.pairwise_iff_getElem]
  intro i j hi hj hij
  simp at hi hj
  simp only [List.getElem_map, List.getElem_set]
  have h2 : ∀ a b, a < gs.length → b < gs.length → a ≠ b → (gs.getD a (0, 0)).1 ≠ (gs.getD b (0, 0)).1 := fun a b ha hb hab => nodup_ne h ha hb hab
  have e1 : ∀ a (ha : a < gs.length), gs[a] = gs.getD a (0, 0) := fun a ha => by simp [ha]
  by_cases c1 : k = i
  · rw [if_pos c1, if_neg (by omega), e1 j hj]
    exact fun e => hp j hj (by omega) e.symm
  · by_cases c2 : k = j
    · rw [if_neg c1, if_pos c2, e1 i hi]
      exact hp i hi (by omega)
    · rw [if_neg c1, if_neg c2, e1 i hi, e1 j hj]
      exact h2 i j hi hj (by omega)

/-- A row becomes another: its numbers lie in X', its header is stored. -/
theorem rr_set {X X' : World} {base g N c k g' c' : Nat} {gs : List (Nat × Nat)} {L : List (List Int)} {r : List Int}
    (hN : L.length = N) (h : RR X base (.slice (some ⟨g, 0, none⟩) N c) gs L) (hk : k < N) (ho : X'.ownsRow base 3 1 (sl r.length (g', c')) r.length (vals r))
    (hg : X.grownBy X' (some (gs.getD k (0, 0)).1)) (hnew : g' = (gs.getD k (0, 0)).1 ∨ X.heap.size ≤ g') :
    RR (X'.setCell ⟨g, k, none⟩ (.slice (some ⟨g', 0, none⟩) r.length c')) base (.slice (some ⟨g, 0, none⟩) N c) (gs.set k (g', c')) (L.set k r) := by
  have hlt := fun i (hi : i < L.length) => h.lt hi
  obtain ⟨h1, h2, h3, h4⟩ := h
  subst hN
  have o1 : X'.ownsRow base 36 1 (.slice (some ⟨g, 0, none⟩) L.length c) L.length (rowsOf L gs) := own_mark h2 hg (fun a ha e => own_types h2 (h3 k hk) (by decide) ha e)
  have o2 := World.ownsRow.stored o1 k (.slice (some ⟨g', 0, none⟩) r.length c')
  refine ⟨by simp [h1], ?_, ?_, ?_⟩
  · have e : rowsOf (L.set k r) (gs.set k (g', c')) = (rowsOf L gs).set k (.slice (some ⟨g', 0, none⟩) r.length c') := by
      apply List.ext_getElem?
      intro i
      by_cases hi : i < L.length
      · rw [rowsOf_at (by simpa using hi), List.getElem?_set]
        by_cases hik : k = i
        · subst hik
          rw [if_pos rfl, if_pos (by rw [rowsOf_len]; exact hi), getD_set_eq hi, getD_set_eq (by omega)]; rfl
        · rw [if_neg hik, rowsOf_at hi, getD_set_ne hik, getD_set_ne hik]
      · rw [List.getElem?_eq_none (by rw [rowsOf_len]; simp; omega), List.getElem?_eq_none (by simp [rowsOf_len]; omega)]
    rw [e, List.length_set]
    exact o2.1
  · intro i hi
    rw [List.length_set] at hi
    by_cases hik : k = i
    · subst hik
      rw [getD_set_eq hi, getD_set_eq (by omega)]
      exact own_mark ho o2.2 (fun a ha e => own_types o1 ho (by decide) e ha)
    · rw [getD_set_ne hik, getD_set_ne hik]
      have o3 : X'.ownsRow base 3 1 (sl (L.getD i []).length (gs.getD i (0, 0))) (L.getD i []).length (vals (L.getD i [])) := own_mark (h3 i hi) hg (fun a ha e => by
        have e2 := nodup_ne h4 (i := i) (j := k) (by omega) (by omega) (fun x => hik x.symm)
        have e3 : (gs.getD i (0, 0)).1 = a := Option.some.inj ha
        have e4 := Option.some.inj e
        omega)
      exact own_mark o3 o2.2 (fun a ha e => own_types o1 o3 (by decide) e ha)
  · refine nodup_set_fst h4 (fun j hj hjk => ?_)
    have e1 := hlt j (by omega)
    have e2 := nodup_ne h4 (i := j) (j := k) hj (by omega) hjk
    rcases hnew with h | h
    · rw [h]; exact e2
    · show _ ≠ g'
      omega

/-- A number is put into a row. -/
theorem rr_put {X : World} {base k j : Nat} {v : Value} {gs : List (Nat × Nat)} {L : List (List Int)} {y : Int}
    (h : RR X base v gs L) (hk : k < L.length) :
    RR (X.setCell ⟨(gs.getD k (0, 0)).1, j, none⟩ (.int .i64 y)) base v gs (L.set k ((L.getD k []).set j y)) := by
  obtain ⟨h1, h2, h3, h4⟩ := h
  have hok := h3 k hk
  unfold sl at hok
  have o2 := World.ownsRow.stored hok j (.int .i64 y)
  have hlen : ∀ i, ((L.set k ((L.getD k []).set j y)).getD i []).length = (L.getD i []).length := by
    intro i
    by_cases hik : k = i
    · subst hik; rw [getD_set_eq hk]; simp
    · rw [getD_set_ne hik]
  refine ⟨by simp [h1], ?_, ?_, h4⟩
  · have e : rowsOf (L.set k ((L.getD k []).set j y)) gs = rowsOf L gs := by
      unfold rowsOf
      rw [List.length_set]
      apply List.map_congr_left
      intro i _
      rw [hlen i]
    rw [e, List.length_set]
    exact own_mark h2 o2.2 (fun a ha e => own_types h2 (h3 k hk) (by decide) ha (by cases e; rfl))
  · intro i hi
    rw [List.length_set] at hi
    rw [hlen i]
    by_cases hik : k = i
    · subst hik
      rw [getD_set_eq hk]
      have e : vals ((L.getD k []).set j y) = (vals (L.getD k [])).set j (.int .i64 y) := by unfold vals; rw [List.map_set]
      rw [e]
      exact o2.1
    · rw [getD_set_ne hik]
      exact own_mark (h3 i hi) o2.2 (fun a ha e => by
        have e2 := nodup_ne h4 (i := i) (j := k) (by omega) (by omega) (fun x => hik x.symm)
        have e3 : (gs.getD i (0, 0)).1 = a := Option.some.inj ha
        have e4 := Option.some.inj e
        omega)

/-- A beginning of a row. -/
theorem own_cut {w : World} {base m j : Nat} {ty : TypeId} {p : Nat × Nat} {xs : List Value} (h : w.ownsRow base ty 1 (sl m p) m xs) (hj : j ≤ m) : w.ownsRow base ty 1 (sl j p) j (xs.take j) := by
  have hl : xs.length = m := by simpa using h.1
  refine ⟨by rw [List.length_take]; omega, .inr ?_⟩
  rcases h.2 with ⟨h0, _⟩ | ⟨g, cap, cur, hv, hb, hh, hnc, hcm, hcs, ht⟩
  · unfold sl at h0; cases h0
  · unfold sl at hv
    cases hv
    refine ⟨p.1, p.2, cur, rfl, hb, hh, by omega, hcm, hcs, ?_⟩
    rw [← ht, List.take_take]
    congr 1
    omega

theorem rag_of_mid {w w' : World} {b D base : Nat} {v : Value} {L : List (List Int)} (h : Rag w base v L) (hm : Mid b D w w') (hD : D ≤ base) : Rag w' base v L := by
  obtain ⟨gs, h1, h2, h3, h4⟩ := h
  exact ⟨gs, h1, hm.own h2 (fun q hq => .inr (by have := (own_block_lt h2 hq).1; omega)), fun i hi => hm.own (h3 i hi) (fun q hq => .inr (by have := (own_block_lt (h3 i hi) hq).1; omega)), h4⟩

theorem mid_trans {base D : Nat} {a b c : World} (h : Mid base D a b) (k : Mid base D b c) : Mid base D a c :=
  ⟨k.os.trans h.os, k.tape.trans h.tape, k.output.trans h.output, Nat.le_trans h.size k.size, fun q hq hb => (k.block q (Nat.lt_of_lt_of_le hq h.size) hb).trans (h.block q hq hb)⟩

/-- What has been written lies in the middle or is new. -/
theorem mid_grown {base D : Nat} {a b c : World} {row : Option Nat} (h : Mid base D a b) (hg : b.grownBy c row) (hr : ∀ q, row = some q → a.heap.size ≤ q ∨ (base ≤ q ∧ q < D)) : Mid base D a c :=
  ⟨hg.os.trans h.os, hg.tape.trans h.tape, hg.output.trans h.output, Nat.le_trans h.size hg.size, fun q hq hb => (hg.block q (Nat.lt_of_lt_of_le hq h.size) (fun e => by have := hr q e.symm; omega)).trans (h.block q hq hb)⟩

theorem mid_more {base D : Nat} {a b c : World} (h : Mid base D a b) (hb : Below b.heap.size b c) : Mid base D a c :=
  mid_grown h (grown_of_below hb none) (fun q e => by cases e)

theorem mid_wide {base D D' : Nat} {a b : World} (h : Mid base D a b) (hD : D ≤ D') : Mid base D' a b :=
  ⟨h.os, h.tape, h.output, h.size, fun q hq hb => h.block q hq (by omega)⟩

end Go.Proofs.YtnhhnffolmgceaaGreat.RRC

end

section
namespace Go.Proofs.YtnhhnffolmgceaaGreat.RRVC
open Go.RowKit SeesC IntsC ExactC ListsC ListsEC ListsFC LLC RagMarkC RagResC RRC AppendTwoC QueM

/-- A block that may be written: new since W, or between base and D. -/
def InR (W : World) (base D q : Nat) : Prop := W.heap.size ≤ q ∨ (base ≤ q ∧ q < D)

/-- Ragged lists in X, of which all that was written since W is the lists' own. -/
def RRV (W : World) (base D : Nat) (X : World) (v : Value) (gs : List (Nat × Nat)) (L : List (List Int)) : Prop :=
  RR X base v gs L ∧ (∀ i, i < L.length → InR W base D (gs.getD i (0, 0)).1) ∧ (∀ q, v.ownBlock = some q → InR W base D q) ∧ Mid base D W X

theorem rrv_start {W : World} {base D : Nat} {v : Value} {L : List (List Int)} (h : RagV W base D v L) : ∃ gs, RRV W base D W v gs L := by
  obtain ⟨⟨gs, h1, h2, h3, h4, h5⟩, h6⟩ := h
  refine ⟨gs, ⟨h1, h2, h3, h4⟩, fun i hi => .inr ⟨(own_block_lt (h3 i hi) (q := (gs.getD i (0, 0)).1) rfl).1, h5 i hi⟩, fun q hq => .inr ⟨(own_block_lt h2 hq).1, h6 q hq⟩, Mid.refl _ _ _⟩

/-- All of them are a call's own, from W on. -/
theorem rrv_own {W X : World} {v : Value} {gs : List (Nat × Nat)} {L : List (List Int)} (h : RR X W.heap.size v gs L) (hb : Below W.heap.size W X) : RRV W W.heap.size W.heap.size X v gs L :=
  ⟨h, fun i hi => .inl (h.lt hi).1, fun _ hq => .inl (own_block_lt h.2.1 hq).1, mid_grown (Mid.refl _ _ _) (grown_of_below hb none) (fun q e => by cases e)⟩

theorem RRV.rag {W : World} {base D : Nat} {X : World} {v : Value} {gs : List (Nat × Nat)} {L : List (List Int)} (h : RRV W base D X v gs L) : Rag X base v L ∧ Mid base D W X := ⟨rr_rag h.1, h.2.2.2⟩

theorem mid_below {base D : Nat} {W X : World} (h : Mid base D W X) (hb : base ≤ W.heap.size) : Below base W X := h.below (Below.refl _ _) (Nat.le_refl _) hb

/-- The world grows elsewhere. -/
theorem RRV.more {W : World} {base D : Nat} {X Y : World} {v : Value} {gs : List (Nat × Nat)} {L : List (List Int)} (h : RRV W base D X v gs L) (hb : Below X.heap.size X Y) : RRV W base D Y v gs L :=
  ⟨h.1.kept hb, h.2.1, h.2.2.1, mid_more h.2.2.2 hb⟩

/-- An empty row more. -/
theorem rrv_new {W X X' : World} {base D N : Nat} {v v5 : Value} {gs : List (Nat × Nat)} {L : List (List Int)} {o : Obj}
    (hN : L.length = N) (h : RRV W base D X v gs L) (hb : base ≤ X.heap.size)
    (ho5 : X'.ownsRow base 36 1 v5 (N + 1) (rowsOf L gs ++ [.slice (some ⟨X.heap.size, 0, none⟩) 0 0])) (hgrow : ((X.alloc (.cells #[] 3)).alloc o).grownBy X' v.ownBlock)
    (hnew : NewRow ((X.alloc (.cells #[] 3)).alloc o) v v5) : RRV W base D X' v5 (gs ++ [(X.heap.size, 0)]) (L ++ [[]]) := by
  obtain ⟨h1, h2, h3, h4⟩ := h
  have hbx : Below X.heap.size X ((X.alloc (.cells #[] 3)).alloc o) := ((Below.refl _ _).alloc (Nat.le_refl _) _).alloc (by simp) _
  have hp : ((X.alloc (.cells #[] 3)).alloc o).ownsRow base 3 1 (sl 0 (X.heap.size, 0)) 0 [] :=
    World.ownsRow.alloc (World.ownsRow_made (base := base) (e := 3) (size := 1) X #[] 0 hb (by unfold maxLen; omega) rfl) o
  have hR := rr_snoc (q := []) hN (h1.kept hbx) hp (fun i hi => by have := (h1.lt (i := i) (by omega)).2; show _ ≠ X.heap.size; omega) ho5 hgrow
  have hW : W.heap.size ≤ X.heap.size := h4.size
  refine ⟨hR, ?_, ?_, ?_⟩
  · intro i hi
    rw [List.length_append, List.length_singleton] at hi
    by_cases hlt : i < L.length
    · rw [getD_cat_l (by rw [h1.1]; exact hlt)]; exact h2 i hlt
    · have e : i = gs.length := by rw [h1.1]; omega
      rw [e, getD_cat_r]
      exact .inl hW
  · intro q hq
    rcases hnew with h | h
    · exact h3 q (by rw [← h]; exact hq)
    · have := h q hq
      simp at this
      exact .inl (by omega)
  · exact mid_grown (mid_more h4 hbx) hgrow (fun q e => h3 q e)

/-- A row becomes another one that lies at its place or in a new one; its header is stored. -/
theorem rrv_set {W X X2 : World} {base D g N c k g' c' : Nat} {gs : List (Nat × Nat)} {L : List (List Int)} {r : List Int}
    (hN : L.length = N) (h : RRV W base D X (.slice (some ⟨g, 0, none⟩) N c) gs L) (hk : k < N) (ho : X2.ownsRow base 3 1 (.slice (some ⟨g', 0, none⟩) r.length c') r.length (vals r))
    (hg : X.grownBy X2 (some (gs.getD k (0, 0)).1)) (hnew : g' = (gs.getD k (0, 0)).1 ∨ X.heap.size ≤ g') :
    RRV W base D (X2.setCell ⟨g, k, none⟩ (.slice (some ⟨g', 0, none⟩) r.length c')) (.slice (some ⟨g, 0, none⟩) N c) (gs.set k (g', c')) (L.set k r) := by
  obtain ⟨h1, h2, h3, h4⟩ := h
  have hW : W.heap.size ≤ X.heap.size := h4.size
  have hs : X2.grownBy (X2.setCell ⟨g, k, none⟩ (.slice (some ⟨g', 0, none⟩) r.length c')) (some g) := by
    have o1 : X2.ownsRow base 36 1 (.slice (some ⟨g, 0, none⟩) N c) L.length (rowsOf L gs) := own_mark h1.2.1 hg (fun a ha e => own_types h1.2.1 (h1.2.2.1 k (by omega)) (by decide) ha e)
    rw [hN] at o1
    exact (World.ownsRow.stored o1 k _).2
  refine ⟨rr_set hN h1 hk ho hg hnew, ?_, h3, mid_grown (mid_grown h4 hg (fun q e => ?_)) hs (fun q e => h3 q e)⟩
  · intro i hi
    rw [List.length_set] at hi
    by_cases hik : k = i
    · subst hik
      rw [getD_set_eq (by rw [h1.1]; omega)]
      rcases hnew with h | h
      · show InR W base D g'
        rw [h]; exact h2 k (by omega)
      · exact .inl (Nat.le_trans hW h)
    · rw [RRC.getD_set_ne hik]; exact h2 i hi
  · cases e
    exact h2 k (by omega)

theorem newRow_or {w : World} {b n c n' c' g : Nat} (h : NewRow w (.slice (some ⟨b, 0, none⟩) n c) (.slice (some ⟨g, 0, none⟩) n' c')) : g = b ∨ w.heap.size ≤ g := by
  rcases h with h | h
  · exact .inl (Option.some.inj h)
  · exact .inr (h g rfl)

/-- A number behind a row. -/
theorem rrv_app {W X X2 : World} {base D g N c k g' c' m : Nat} {gs : List (Nat × Nat)} {L : List (List Int)} {r : List Int} {x : Int} {o : Obj}
    (hN : L.length = N) (h : RRV W base D X (.slice (some ⟨g, 0, none⟩) N c) gs L) (hk : k < N) (hr : L.getD k [] = r) (hm : r.length = m)
    (ho : X2.ownsRow base 3 1 (.slice (some ⟨g', 0, none⟩) (m + 1) c') (m + 1) (vals r ++ [.int .i64 x]))
    (hg : (X.alloc o).grownBy X2 (some (gs.getD k (0, 0)).1)) (hnew : NewRow (X.alloc o) (.slice (some ⟨(gs.getD k (0, 0)).1, 0, none⟩) m (gs.getD k (0, 0)).2) (.slice (some ⟨g', 0, none⟩) (m + 1) c')) :
    RRV W base D (X2.setCell ⟨g, k, none⟩ (.slice (some ⟨g', 0, none⟩) (m + 1) c')) (.slice (some ⟨g, 0, none⟩) N c) (gs.set k (g', c')) (L.set k (r ++ [x])) ∧
      X2.cell? ⟨g, k, none⟩ = some (.slice (some ⟨(gs.getD k (0, 0)).1, 0, none⟩) m (gs.getD k (0, 0)).2) ∧ X2.frozen? ⟨g, k, none⟩ = false := by
  have e : vals r ++ [.int .i64 x] = vals (r ++ [x]) := by simp
  have el : (r ++ [x]).length = m + 1 := by simp [hm]
  rw [e] at ho
  have ho2 : X2.ownsRow base 3 1 (.slice (some ⟨g', 0, none⟩) (r ++ [x]).length c') (r ++ [x]).length (vals (r ++ [x])) := by rw [el]; exact ho
  have hgx : X.grownBy X2 (some (gs.getD k (0, 0)).1) := grown_trans (World.grownBy_alloc X o _) hg
  have hn := newRow_or hnew
  have h1 := rrv_set hN h hk ho2 hgx (by
    rcases hn with h | h
    · exact .inl h
    · simp at h; exact .inr (by omega))
  rw [el] at h1
  refine ⟨h1, ?_, ?_⟩
  · have o1 : X2.ownsRow base 36 1 (.slice (some ⟨g, 0, none⟩) N c) L.length (rowsOf L gs) := own_mark h.1.2.1 hgx (fun a ha e => own_types h.1.2.1 (h.1.2.2.1 k (by omega)) (by decide) ha e)
    rw [hN] at o1
    rw [o1.cellAt k (by omega), rowsOf_at (by omega), hr, hm]; rfl
  · have o1 : X2.ownsRow base 36 1 (.slice (some ⟨g, 0, none⟩) N c) L.length (rowsOf L gs) := own_mark h.1.2.1 hgx (fun a ha e => own_types h.1.2.1 (h.1.2.2.1 k (by omega)) (by decide) ha e)
    rw [hN] at o1
    exact o1.frozenAt k

/-- A number put into a row. -/
theorem rrv_put {W X : World} {base D k j : Nat} {v : Value} {gs : List (Nat × Nat)} {L : List (List Int)} {y : Int} (h : RRV W base D X v gs L) (hk : k < L.length) :
    RRV W base D (X.setCell ⟨(gs.getD k (0, 0)).1, j, none⟩ (.int .i64 y)) v gs (L.set k ((L.getD k []).set j y)) ∧ X.frozen? ⟨(gs.getD k (0, 0)).1, j, none⟩ = false := by
  obtain ⟨h1, h2, h3, h4⟩ := h
  have o1 := h1.2.2.1 k hk
  unfold sl at o1
  exact ⟨⟨rr_put h1 hk, fun i hi => h2 i (by simpa using hi), h3, mid_grown h4 (World.ownsRow.stored o1 j _).2 (fun q e => by cases e; exact h2 k hk)⟩, o1.frozenAt j⟩

theorem rr_slice {X : World} {base N : Nat} {v : Value} {gs : List (Nat × Nat)} {L : List (List Int)} (h : RR X base v gs L) (hN : L.length = N) (hp : 0 < N) : ∃ g c, v = .slice (some ⟨g, 0, none⟩) N c := by
  have := own_pos h.2.1 (by omega)
  rw [hN] at this
  exact this

theorem cell_two_new (w : World) (o : Obj) (x : Value) (t : TypeId) (h : Nat) (hh : w.heap.size = h) : ∀ j u, [x][j]? = some u → ((w.alloc o).alloc (.cells #[x] t)).cell? ((⟨h + 1, 0, none⟩ : Addr).add j) = some u := by
  intro j u hu
  have := cell_one_new (w.alloc o) x t j u hu
  rw [World.size_alloc, hh] at this
  exact this

theorem drawn_drew {w w' : World} (h : Drawn w w') : Drawn w w'.drew := by
  obtain ⟨m, rfl⟩ := h; exact ⟨m + 1, rfl⟩

/-- What is owned is the heap's alone. -/
theorem own_hp {w w' : World} (h : w'.heap = w.heap) {base size n : Nat} {ty : TypeId} {v : Value} {xs : List Value} (ho : w.ownsRow base ty size v n xs) : w'.ownsRow base ty size v n xs := by
  unfold World.ownsRow at *; rw [h]; exact ho

end Go.Proofs.YtnhhnffolmgceaaGreat.RRVC

end

section
namespace Go.Proofs.YtnhhnffolmgceaaGreat.CopyRowsC
open Go.RowKit SeesC IntsC ExactC ListsC ListsEC ListsFC LLC RagMarkC RagResC RRC RRVC

/-- copy into a whole row of the call's own. -/
theorem wpList_copy_full {P : Program} {w : World} {ops : Array Oper} {rest : List Oper} {o : Oper} {a : Act} {Q : Exit → Act → World → Prop} (hgd : o.guard = none) (d s : Operand) (dT sT : TypeId)
    (ho : o.op = .call { callee := .builtin .copy, args := #[d, s], argTypes := #[dT, sT] }) (elem : TypeId) (hu : P.underlying dT = some (.slice elem)) (hsz : (P.info? elem).map (·.size) = some 1)
    (base g m cap sCap : Nat) (sp : Option Addr) (xs news : List Value) (ty : TypeId) (hown : w.ownsRow base ty 1 (.slice (some ⟨g, 0, none⟩) m cap) m xs) (hd : a.eval d = .slice (some ⟨g, 0, none⟩) m cap) (hs : a.eval s = .slice sp m sCap)
    (hn : news.length = m) (hsrc : 0 < m → ∃ ad, sp = some ad ∧ ∀ j v, news[j]? = some v → w.cell? (ad.add j) = some v) (h1 : ∀ v ∈ news, v.oneCell' = true)
    (h : ∀ w', w'.ownsRow base ty 1 (.slice (some ⟨g, 0, none⟩) m cap) m news → w.grownBy w' (some g) → wpList P ops Q rest (a.put o.dst (goInt m)) w') :
    wpList P ops Q (o :: rest) a w := by
  by_cases h0 : m = 0
  · subst h0
    obtain rfl : news = [] := List.eq_nil_of_length_eq_zero hn
    have hx : xs = [] := List.eq_nil_of_length_eq_zero (by simpa using hown.1)
    subst hx
    refine wpList_copy_nothing hgd d s dT sT ho elem hu hsz (some ⟨g, 0, none⟩) sp 0 cap 0 sCap hd hs (by simp) ?_
    exact h w hown ⟨rfl, rfl, rfl, Nat.le_refl _, fun _ _ _ => rfl⟩
  · obtain ⟨ad, rfl, hc⟩ := hsrc (by omega)
    rcases hown.2 with ⟨h2, _⟩ | ⟨g2, cap2, cur, hv, hb, hh, hnc, hcm, hcs, ht⟩
    · cases h2
    · cases hv
      refine wpList_copy_own hgd d s dT sT ho elem hu hsz g 0 m cap ad m sCap hd hs cur ty hh news (by rw [hn]; exact (Nat.min_self m).symm) hc (by omega) h1 ?_
      rw [hn]
      refine h _ ⟨by omega, .inr ⟨g, cap, _, rfl, hb, setRow_heap w g _ _ ty _ hh, hnc, hcm, ?_, ?_⟩⟩ ⟨rfl, rfl, rfl, by simp [World.setRow], fun k _ hk => setRow_other w g k _ (fun e => hk (by rw [e]))⟩
      · simp [hn]; omega
      · simp [hn]

/-- Copied so far: k rows of N. -/
def CR (w : World) (L : List (List Int)) (N k : Nat) (gs : List (Nat × Nat)) (wr : World) : Prop :=
  gs.length = k ∧ wr.ownsRow w.heap.size 36 1 (.slice (some ⟨w.heap.size, 0, none⟩) N N) N (rowsTo L gs k ++ List.replicate (N - k) (.slice none 0 0)) ∧ Below w.heap.size w wr ∧
    (∀ i, i < k → wr.ownsRow w.heap.size 3 1 (sl (L.getD i []).length (gs.getD i (0, 0))) (L.getD i []).length (vals (L.getD i []))) ∧ (gs.map (·.1)).Nodup ∧ w.heap.size < wr.heap.size

theorem cr_store {w wr w2 : World} {L : List (List Int)} {N k g m : Nat} {gs : List (Nat × Nat)} {zs : List Value} (h : CR w L N k gs wr) (hk : k < N)
    (ho : w2.ownsRow wr.heap.size 3 1 (.slice (some ⟨g, 0, none⟩) m m) m zs) (hg : wr.grownBy w2 none) :
    (∃ uu, w2.cell? ⟨w.heap.size, k, none⟩ = some uu) ∧ w2.frozen? ⟨w.heap.size, k, none⟩ = false ∧
      (w2.setCell ⟨w.heap.size, k, none⟩ (.slice (some ⟨g, 0, none⟩) m m)).ownsRow wr.heap.size 3 1 (.slice (some ⟨g, 0, none⟩) m m) m zs ∧
      Below w.heap.size w (w2.setCell ⟨w.heap.size, k, none⟩ (.slice (some ⟨g, 0, none⟩) m m)) := by
  obtain ⟨h1, h2, h3, h4, h5, h6⟩ := h
  have hout := own_mark h2 hg (fun a _ e => by cases e)
  have hrl : (rowsTo L gs k).length = k := by simp [rowsTo]
  have hst := hout.stored k (.slice (some ⟨g, 0, none⟩) m m)
  refine ⟨⟨_, (hout.cellAt k (by omega)).trans (List.getElem?_eq_getElem (by simp [hrl]; omega))⟩, hout.frozenAt k, own_mark ho hst.2 (fun a ha e => own_types hout ho (by decide) (by show some w.heap.size = some a; exact e) ha), ?_⟩
  exact (h3.grown hg h3.size (fun q e => by cases e)).setCell (p := ⟨w.heap.size, k, none⟩) (Nat.le_refl _) _

theorem cr_copied {w wr w2 w4 : World} {L : List (List Int)} {N k g m : Nat} {gs : List (Nat × Nat)} {zs : List Value} (h : CR w L N k gs wr) (hk : k < N) (hm : (L.getD k []).length = m)
    (ho : w2.ownsRow wr.heap.size 3 1 (.slice (some ⟨g, 0, none⟩) m m) m zs) (hg : wr.grownBy w2 none)
    (hc : w4.ownsRow wr.heap.size 3 1 (.slice (some ⟨g, 0, none⟩) m m) m (vals (L.getD k []))) (hg4 : (w2.setCell ⟨w.heap.size, k, none⟩ (.slice (some ⟨g, 0, none⟩) m m)).grownBy w4 (some g)) :
    CR w L N (k + 1) (gs ++ [(g, m)]) w4 := by
  have hs := cr_store h hk ho hg
  obtain ⟨h1, h2, h3, h4, h5, h6⟩ := h
  have hgl := own_block_lt ho (q := g) rfl
  have hout := own_mark h2 hg (fun a _ e => by cases e)
  have hst := hout.stored k (.slice (some ⟨g, 0, none⟩) m m)
  have hrl : (rowsTo L gs k).length = k := by simp [rowsTo]
  have e2 := rows_set (rowsTo L gs k) k N (.slice (some ⟨g, 0, none⟩) m m) (.slice none 0 0) hrl hk
  have e3 := rowsTo_next L gs (g, m) k h1
  have e4 : sl (L.getD k []).length (g, m) = .slice (some ⟨g, 0, none⟩) m m := by rw [hm]; rfl
  rw [e4] at e3
  rw [e2, ← e3] at hst
  refine ⟨by rw [List.length_append, h1]; rfl, own_mark hst.1 hg4 (fun a ha e => own_types hst.1 hs.2.2.1 (by decide) ha e), ?_, ?_, ?_, ?_⟩
  · exact hs.2.2.2.grown hg4 (by have := hs.2.2.2.size; omega) (fun q e => by cases e; have := h3.size; omega)
  · intro i hi
    by_cases hik : i < k
    · have e5 : (gs ++ [(g, m)]).getD i (0, 0) = gs.getD i (0, 0) := getD_cat_l (by omega)
      rw [e5]
      have h7 := own_mark (h4 i hik) hg (fun a _ e => by cases e)
      have h8 := own_mark h7 hst.2 (fun a ha e => own_types hout h7 (by decide) (by show some w.heap.size = some a; exact e) ha)
      refine own_mark h8 hg4 (fun a ha e => ?_)
      have h9 := own_block_lt (h4 i hik) (q := (gs.getD i (0, 0)).1) rfl
      have e6 : (gs.getD i (0, 0)).1 = a := Option.some.inj ha
      have e7 := Option.some.inj e
      omega
    · have e6 : i = k := by omega
      subst e6
      have e5 : (gs ++ [(g, m)]).getD i (0, 0) = (g, m) := by rw [← h1, getD_cat_r]
      rw [e5, hm]
      exact own_lower hc h3.size
  · rw [List.map_append, List.nodup_append]
    refine ⟨h5, by simp, ?_⟩
    intro x hx y hy e
    simp at hy
    subst hy
    obtain ⟨r, hr, rfl⟩ := List.mem_map.1 hx
    obtain ⟨i, hi, hir⟩ := List.mem_iff_getElem.1 hr
    have h7 := own_block_lt (h4 i (by omega)) (q := (gs.getD i (0, 0)).1) rfl
    have h8 : gs.getD i (0, 0) = r := by rw [← hir]; simp [hi]
    rw [h8] at h7
    omega
  · have a1 := hg.size
    have a2 := (World.grownBy.size hst.2)
    have a3 := hg4.size
    omega

theorem sees_src {w : World} {u : Option Addr} {m c : Nat} {xs : List Value} (h : Sees w (.slice u m c) m xs) : 0 < m → ∃ ad, u = some ad ∧ ∀ j v, xs[j]? = some v → w.cell? (ad.add j) = some v := by
  intro hm
  obtain ⟨_, a, cap, he, _, hc⟩ := h
  obtain ⟨b, o, rfl, h2⟩ := hc hm
  cases he
  refine ⟨_, rfl, fun j v hj => ?_⟩
  have : (⟨b, o, none⟩ : Addr).add j = ⟨b, o + j, none⟩ := by unfold Addr.add; split <;> simp_all
  rw [this]
  exact h2 j v hj

end Go.Proofs.YtnhhnffolmgceaaGreat.CopyRowsC

end
