/-
  Ragged lists through steps of a call: what may have been written is the lists' own, from a world W on. Plain facts on worlds. Conditions: none.
-/
import Derived.Test.YtpkjnlabjmpokaaPx35
import Derived.Test.YtpkjnlabjmpokaaPx30
import Derived.Maps.AppendAt

namespace Go.Proofs.Ytpkjnlabjmpokaa.RRVC
open Go.RowKit SeesC IntsC ExactC ListsC ListsEC ListsFC LLC RagMarkC RagResC RRC AppendTwoC QueM

/-- A block that may be written: new since W, or between base and D. -/
def InR (W : World) (base D q : Nat) : Prop := W.heap.size ≤ q ∨ (base ≤ q ∧ q < D)

/-- Ragged lists in X, of which all that was written since W is the lists' own. -/
def RRV (W : World) (base D : Nat) (X : World) (v : Value) (gs : List (Nat × Nat)) (L : List (List Int)) : Prop :=
  RR X base v gs L ∧ (∀ i, i < L.length → InR W base D (gs.getD i (0, 0)).1) ∧ (∀ q, v.ownBlock = some q → InR W base D q) ∧ Mid base D W X

theorem rrv_start {W : World} {base D : Nat} {v : Value} {L : List (List Int)} (h : RagV W base D v L) : ∃ gs, RRV W base D W v gs L := by
  obtain ⟨⟨gs, h1, h2, h3, h4, h5⟩, h6⟩ := h
  refine ⟨gs, ⟨h1, h2, h3, h4⟩, fun i hi => .inr ⟨(own_block_lt (h3 i hi) (q := (gs.getD i (0, 0)).1) rfl).1, h5 i hi⟩, fun q hq => .inr ⟨(own_block_lt h2 hq).1, h6 q hq⟩, Mid.refl _ _ _⟩

/-- All of them are a call's own, from W on. -/
theorem rrv_own {W X : World} {v : Value} {gs : List (Nat × Nat)} {L : List (List Int)} (h : RR X W.heap.size v gs L) (hb : Below W.heap.size W X) : RRV W W.heap.size W.heap.size X v gs L :=
  ⟨h, fun i hi => .inl (h.lt hi).1, fun _ hq => .inl (own_block_lt h.2.1 hq).1, mid_grown (Mid.refl _ _ _) (grown_of_below hb none) (fun q e => by cases e)⟩

theorem RRV.rag {W : World} {base D : Nat} {X : World} {v : Value} {gs : List (Nat × Nat)} {L : List (List Int)} (h : RRV W base D X v gs L) : Rag X base v L ∧ Mid base D W X := ⟨rr_rag h.1, h.2.2.2⟩

theorem mid_below {base D : Nat} {W X : World} (h : Mid base D W X) (hb : base ≤ W.heap.size) : Below base W X := h.below (Below.refl _ _) (Nat.le_refl _) hb

/-- The world grows elsewhere. -/
theorem RRV.more {W : World} {base D : Nat} {X Y : World} {v : Value} {gs : List (Nat × Nat)} {L : List (List Int)} (h : RRV W base D X v gs L) (hb : Below X.heap.size X Y) : RRV W base D Y v gs L :=
  ⟨h.1.kept hb, h.2.1, h.2.2.1, mid_more h.2.2.2 hb⟩

/-- An empty row more. -/
theorem rrv_new {W X X' : World} {base D N : Nat} {v v5 : Value} {gs : List (Nat × Nat)} {L : List (List Int)} {o : Obj}
    (hN : L.length = N) (h : RRV W base D X v gs L) (hb : base ≤ X.heap.size)
    (ho5 : X'.ownsRow base 22 1 v5 (N + 1) (rowsOf L gs ++ [.slice (some ⟨X.heap.size, 0, none⟩) 0 0])) (hgrow : ((X.alloc (.cells #[] 3)).alloc o).grownBy X' v.ownBlock)
    (hnew : NewRow ((X.alloc (.cells #[] 3)).alloc o) v v5) : RRV W base D X' v5 (gs ++ [(X.heap.size, 0)]) (L ++ [[]]) := by
  obtain ⟨h1, h2, h3, h4⟩ := h
  have hbx : Below X.heap.size X ((X.alloc (.cells #[] 3)).alloc o) := ((Below.refl _ _).alloc (Nat.le_refl _) _).alloc (by simp) _
  have hp : ((X.alloc (.cells #[] 3)).alloc o).ownsRow base 3 1 (sl 0 (X.heap.size, 0)) 0 [] :=
    World.ownsRow.alloc (World.ownsRow_made (base := base) (e := 3) (size := 1) X #[] 0 hb (by unfold maxLen; omega) rfl) o
  have hR := rr_snoc (q := []) hN (h1.kept hbx) hp (fun i hi => by have := (h1.lt (i := i) (by omega)).2; show _ ≠ X.heap.size; omega) ho5 hgrow
  have hW : W.heap.size ≤ X.heap.size := h4.size
  refine ⟨hR, ?_, ?_, ?_⟩
  · intro i hi
    rw [List.length_append, List.length_singleton] at hi
    by_cases hlt : i < L.length
    · rw [getD_cat_l (by rw [h1.1]; exact hlt)]; exact h2 i hlt
    · have e : i = gs.length := by rw [h1.1]; omega
      rw [e, getD_cat_r]
      exact .inl hW
  · intro q hq
    rcases hnew with h | h
    · exact h3 q (by rw [← h]; exact hq)
    · have := h q hq
      simp at this
      exact .inl (by omega)
  · exact mid_grown (mid_more h4 hbx) hgrow (fun q e => h3 q e)

/-- A row becomes another one that lies at its place or in a new one; its header is stored. -/
theorem rrv_set {W X X2 : World} {base D g N c k g' c' : Nat} {gs : List (Nat × Nat)} {L : List (List Int)} {r : List Int}
    (hN : L.length = N) (h : RRV W base D X (.slice (some ⟨g, 0, none⟩) N c) gs L) (hk : k < N) (ho : X2.ownsRow base 3 1 (.slice (some ⟨g', 0, none⟩) r.length c') r.length (vals r))
    (hg : X.grownBy X2 (some (gs.getD k (0, 0)).1)) (hnew : g' = (gs.getD k (0, 0)).1 ∨ X.heap.size ≤ g') :
    RRV W base D (X2.setCell ⟨g, k, none⟩ (.slice (some ⟨g', 0, none⟩) r.length c')) (.slice (some ⟨g, 0, none⟩) N c) (gs.set k (g', c')) (L.set k r) := by
  obtain ⟨h1, h2, h3, h4⟩ := h
  have hW : W.heap.size ≤ X.heap.size := h4.size
  have hs : X2.grownBy (X2.setCell ⟨g, k, none⟩ (.slice (some ⟨g', 0, none⟩) r.length c')) (some g) := by
    have o1 : X2.ownsRow base 22 1 (.slice (some ⟨g, 0, none⟩) N c) L.length (rowsOf L gs) := own_mark h1.2.1 hg (fun a ha e => own_types h1.2.1 (h1.2.2.1 k (by omega)) (by decide) ha e)
    rw [hN] at o1
    exact (World.ownsRow.stored o1 k _).2
  refine ⟨rr_set hN h1 hk ho hg hnew, ?_, h3, mid_grown (mid_grown h4 hg (fun q e => ?_)) hs (fun q e => h3 q e)⟩
  · intro i hi
    rw [List.length_set] at hi
    by_cases hik : k = i
    · subst hik
      rw [getD_set_eq (by rw [h1.1]; omega)]
      rcases hnew with h | h
      · show InR W base D g'
        rw [h]; exact h2 k (by omega)
      · exact .inl (Nat.le_trans hW h)
    · rw [RRC.getD_set_ne hik]; exact h2 i hi
  · cases e
    exact h2 k (by omega)

theorem newRow_or {w : World} {b n c n' c' g : Nat} (h : NewRow w (.slice (some ⟨b, 0, none⟩) n c) (.slice (some ⟨g, 0, none⟩) n' c')) : g = b ∨ w.heap.size ≤ g := by
  rcases h with h | h
  · exact .inl (Option.some.inj h)
  · exact .inr (h g rfl)

/-- A number behind a row. -/
theorem rrv_app {W X X2 : World} {base D g N c k g' c' m : Nat} {gs : List (Nat × Nat)} {L : List (List Int)} {r : List Int} {x : Int} {o : Obj}
    (hN : L.length = N) (h : RRV W base D X (.slice (some ⟨g, 0, none⟩) N c) gs L) (hk : k < N) (hr : L.getD k [] = r) (hm : r.length = m)
    (ho : X2.ownsRow base 3 1 (.slice (some ⟨g', 0, none⟩) (m + 1) c') (m + 1) (vals r ++ [.int .i64 x]))
    (hg : (X.alloc o).grownBy X2 (some (gs.getD k (0, 0)).1)) (hnew : NewRow (X.alloc o) (.slice (some ⟨(gs.getD k (0, 0)).1, 0, none⟩) m (gs.getD k (0, 0)).2) (.slice (some ⟨g', 0, none⟩) (m + 1) c')) :
    RRV W base D (X2.setCell ⟨g, k, none⟩ (.slice (some ⟨g', 0, none⟩) (m + 1) c')) (.slice (some ⟨g, 0, none⟩) N c) (gs.set k (g', c')) (L.set k (r ++ [x])) ∧
      X2.cell? ⟨g, k, none⟩ = some (.slice (some ⟨(gs.getD k (0, 0)).1, 0, none⟩) m (gs.getD k (0, 0)).2) ∧ X2.frozen? ⟨g, k, none⟩ = false := by
  have e : vals r ++ [.int .i64 x] = vals (r ++ [x]) := by simp
  have el : (r ++ [x]).length = m + 1 := by simp [hm]
  rw [e] at ho
  have ho2 : X2.ownsRow base 3 1 (.slice (some ⟨g', 0, none⟩) (r ++ [x]).length c') (r ++ [x]).length (vals (r ++ [x])) := by rw [el]; exact ho
  have hgx : X.grownBy X2 (some (gs.getD k (0, 0)).1) := grown_trans (World.grownBy_alloc X o _) hg
  have hn := newRow_or hnew
  have h1 := rrv_set hN h hk ho2 hgx (by
    rcases hn with h | h
    · exact .inl h
    · simp at h; exact .inr (by omega))
  rw [el] at h1
  refine ⟨h1, ?_, ?_⟩
  · have o1 : X2.ownsRow base 22 1 (.slice (some ⟨g, 0, none⟩) N c) L.length (rowsOf L gs) := own_mark h.1.2.1 hgx (fun a ha e => own_types h.1.2.1 (h.1.2.2.1 k (by omega)) (by decide) ha e)
    rw [hN] at o1
    rw [o1.cellAt k (by omega), rowsOf_at (by omega), hr, hm]; rfl
  · have o1 : X2.ownsRow base 22 1 (.slice (some ⟨g, 0, none⟩) N c) L.length (rowsOf L gs) := own_mark h.1.2.1 hgx (fun a ha e => own_types h.1.2.1 (h.1.2.2.1 k (by omega)) (by decide) ha e)
    rw [hN] at o1
    exact o1.frozenAt k

/-- A number put into a row. -/
theorem rrv_put {W X : World} {base D k j : Nat} {v : Value} {gs : List (Nat × Nat)} {L : List (List Int)} {y : Int} (h : RRV W base D X v gs L) (hk : k < L.length) :
    RRV W base D (X.setCell ⟨(gs.getD k (0, 0)).1, j, none⟩ (.int .i64 y)) v gs (L.set k ((L.getD k []).set j y)) ∧ X.frozen? ⟨(gs.getD k (0, 0)).1, j, none⟩ = false := by
  obtain ⟨h1, h2, h3, h4⟩ := h
  have o1 := h1.2.2.1 k hk
  unfold sl at o1
  exact ⟨⟨rr_put h1 hk, fun i hi => h2 i (by simpa using hi), h3, mid_grown h4 (World.ownsRow.stored o1 j _).2 (fun q e => by cases e; exact h2 k hk)⟩, o1.frozenAt j⟩

theorem rr_slice {X : World} {base N : Nat} {v : Value} {gs : List (Nat × Nat)} {L : List (List Int)} (h : RR X base v gs L) (hN : L.length = N) (hp : 0 < N) : ∃ g c, v = .slice (some ⟨g, 0, none⟩) N c := by
  have := own_pos h.2.1 (by omega)
  rw [hN] at this
  exact this

theorem cell_two_new (w : World) (o : Obj) (x : Value) (t : TypeId) (h : Nat) (hh : w.heap.size = h) : ∀ j u, [x][j]? = some u → ((w.alloc o).alloc (.cells #[x] t)).cell? ((⟨h + 1, 0, none⟩ : Addr).add j) = some u := by
  intro j u hu
  have := cell_one_new (w.alloc o) x t j u hu
  rw [World.size_alloc, hh] at this
  exact this

theorem drawn_drew {w w' : World} (h : Drawn w w') : Drawn w w'.drew := by
  obtain ⟨m, rfl⟩ := h; exact ⟨m + 1, rfl⟩

/-- What is owned is the heap's alone. -/
theorem own_hp {w w' : World} (h : w'.heap = w.heap) {base size n : Nat} {ty : TypeId} {v : Value} {xs : List Value} (ho : w.ownsRow base ty size v n xs) : w'.ownsRow base ty size v n xs := by
  unfold World.ownsRow at *; rw [h]; exact ho

end Go.Proofs.Ytpkjnlabjmpokaa.RRVC
