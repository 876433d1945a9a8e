/-
  MeanRuns returns for all arguments what the model says, and writes nothing that was there before.
-/
import Derived.Test.YtpkjnlabjmpokaaPkChMeanRunsLawA
import Derived.Test.YtpkjnlabjmpokaaLists
import Derived.RangeFuncRecord
import Derived.Maps.AppendAt
import Derived.Test.YtpkjnlabjmpokaaSame
import Derived.Test.YtpkjnlabjmpokaaOrder
import Derived.Test.YtpkjnlabjmpokaaMeanO
import Derived.Deep.RegionLaw
import Derived.Deep.RegionHeld3
import Derived.Test.YtpkjnlabjmpokaaRows
import Derived.Test.YtpkjnlabjmpokaaSeat
import Derived.Test.YtpkjnlabjmpokaaOpen
import Derived.WalkKit
import Derived.ProofKit
import Derived.OpenShut
import Derived.ShutString
import Derived.ChangeOld
import Derived.Below
import Derived.Test.YtpkjnlabjmpokaaExact
import Derived.Test.YtpkjnlabjmpokaaOrd
import Derived.Test.YtpkjnlabjmpokaaEqA2L

/-
  Facts: lists that are read are read again behind a call. Conditions: none.
-/
namespace Go.Proofs.Ytpkjnlabjmpokaa.UsedC
open Go.RowKit SeesC IntsC ExactC ListsC

theorem below_heap {w w' a : World} {B : Nat} (h : Below B a w) (h1 : w'.os = w.os) (h2 : w'.tape = w.tape) (h3 : w'.output = w.output) (h4 : w'.heap = w.heap) : Below B a w' :=
  ⟨h1.trans h.os, h2.trans h.tape, h3.trans h.output, by rw [h4]; exact h.size, fun q hq => by rw [h4]; exact h.block q hq⟩

theorem own_heap {w w' : World} (h : w'.heap = w.heap) {base size n : Nat} {ty : TypeId} {v : Value} {xs : List Value} (ho : w.ownsRow base ty size v n xs) : w'.ownsRow base ty size v n xs := by
  unfold World.ownsRow at ho ⊢
  rw [h]
  exact ho

theorem new_cell (w : World) (v : Value) (t : TypeId) : (w.alloc (.cells #[v] t)).cell? ⟨w.heap.size, 0, none⟩ = some v := by
  have hn := World.alloc_heap_new w (.cells #[v] t)
  unfold World.cell?; simp only [hn]; rfl

theorem looks_grow {w w' : World} {n : Nat} {v : Value} {L : List (List Value)} (h : Looks w n v L) (hb : Below w.heap.size w w') : Looks w' n v L := by
  obtain ⟨gs, h1, h2, h3⟩ := h
  exact ⟨gs, h1, h2.grow hb, fun i hi => (h3 i hi).grow hb⟩

end Go.Proofs.Ytpkjnlabjmpokaa.UsedC

/-
  Ragged lists through steps of a call: what may have been written is the lists' own, from a world W on. Plain facts on worlds. Conditions: none.
-/
namespace Go.Proofs.Ytpkjnlabjmpokaa.RRVC
open Go.RowKit SeesC IntsC ExactC ListsC ListsEC ListsFC LLC RagMarkC RagResC RRC AppendTwoC QueM

/-- A block that may be written: new since W, or between base and D. -/
def InR (W : World) (base D q : Nat) : Prop := W.heap.size ≤ q ∨ (base ≤ q ∧ q < D)

/-- Ragged lists in X, of which all that was written since W is the lists' own. -/
def RRV (W : World) (base D : Nat) (X : World) (v : Value) (gs : List (Nat × Nat)) (L : List (List Int)) : Prop :=
  RR X base v gs L ∧ (∀ i, i < L.length → InR W base D (gs.getD i (0, 0)).1) ∧ (∀ q, v.ownBlock = some q → InR W base D q) ∧ Mid base D W X

theorem rrv_start {W : World} {base D : Nat} {v : Value} {L : List (List Int)} (h : RagV W base D v L) : ∃ gs, RRV W base D W v gs L := by
  obtain ⟨⟨gs, h1, h2, h3, h4, h5⟩, h6⟩ := h
  refine ⟨gs, ⟨h1, h2, h3, h4⟩, fun i hi => .inr ⟨(own_block_lt (h3 i hi) (q := (gs.getD i (0, 0)).1) rfl).1, h5 i hi⟩, fun q hq => .inr ⟨(own_block_lt h2 hq).1, h6 q hq⟩, Mid.refl _ _ _⟩

/-- All of them are a call's own, from W on. -/
theorem rrv_own {W X : World} {v : Value} {gs : List (Nat × Nat)} {L : List (List Int)} (h : RR X W.heap.size v gs L) (hb : Below W.heap.size W X) : RRV W W.heap.size W.heap.size X v gs L :=
  ⟨h, fun i hi => .inl (h.lt hi).1, fun _ hq => .inl (own_block_lt h.2.1 hq).1, mid_grown (Mid.refl _ _ _) (grown_of_below hb none) (fun q e => by cases e)⟩

theorem RRV.rag {W : World} {base D : Nat} {X : World} {v : Value} {gs : List (Nat × Nat)} {L : List (List Int)} (h : RRV W base D X v gs L) : Rag X base v L ∧ Mid base D W X := ⟨rr_rag h.1, h.2.2.2⟩

theorem mid_below {base D : Nat} {W X : World} (h : Mid base D W X) (hb : base ≤ W.heap.size) : Below base W X := h.below (Below.refl _ _) (Nat.le_refl _) hb

/-- The world grows elsewhere. -/
theorem RRV.more {W : World} {base D : Nat} {X Y : World} {v : Value} {gs : List (Nat × Nat)} {L : List (List Int)} (h : RRV W base D X v gs L) (hb : Below X.heap.size X Y) : RRV W base D Y v gs L :=
  ⟨h.1.kept hb, h.2.1, h.2.2.1, mid_more h.2.2.2 hb⟩

/-- An empty row more. -/
theorem rrv_new {W X X' : World} {base D N : Nat} {v v5 : Value} {gs : List (Nat × Nat)} {L : List (List Int)} {o : Obj}
    (hN : L.length = N) (h : RRV W base D X v gs L) (hb : base ≤ X.heap.size)
    (ho5 : X'.ownsRow base 22 1 v5 (N + 1) (rowsOf L gs ++ [.slice (some ⟨X.heap.size, 0, none⟩) 0 0])) (hgrow : ((X.alloc (.cells #[] 3)).alloc o).grownBy X' v.ownBlock)
    (hnew : NewRow ((X.alloc (.cells #[] 3)).alloc o) v v5) : RRV W base D X' v5 (gs ++ [(X.heap.size, 0)]) (L ++ [[]]) := by
  obtain ⟨h1, h2, h3, h4⟩ := h
  have hbx : Below X.heap.size X ((X.alloc (.cells #[] 3)).alloc o) := ((Below.refl _ _).alloc (Nat.le_refl _) _).alloc (by simp) _
  have hp : ((X.alloc (.cells #[] 3)).alloc o).ownsRow base 3 1 (sl 0 (X.heap.size, 0)) 0 [] :=
    World.ownsRow.alloc (World.ownsRow_made (base := base) (e := 3) (size := 1) X #[] 0 hb (by unfold maxLen; omega) rfl) o
  have hR := rr_snoc (q := []) hN (h1.kept hbx) hp (fun i hi => by have := (h1.lt (i := i) (by omega)).2; show _ ≠ X.heap.size; omega) ho5 hgrow
  have hW : W.heap.size ≤ X.heap.size := h4.size
  refine ⟨hR, ?_, ?_, ?_⟩
  · intro i hi
    rw [List.length_append, List.length_singleton] at hi
    by_cases hlt : i < L.length
    · rw [getD_cat_l (by rw [h1.1]; exact hlt)]; exact h2 i hlt
    · have e : i = gs.length := by rw [h1.1]; omega
      rw [e, getD_cat_r]
      exact .inl hW
  · intro q hq
    rcases hnew with h | h
    · exact h3 q (by rw [← h]; exact hq)
    · have := h q hq
      simp at this
      exact .inl (by omega)
  · exact mid_grown (mid_more h4 hbx) hgrow (fun q e => h3 q e)

/-- A row becomes another one that lies at its place or in a new one; its header is stored. -/
theorem rrv_set {W X X2 : World} {base D g N c k g' c' : Nat} {gs : List (Nat × Nat)} {L : List (List Int)} {r : List Int}
    (hN : L.length = N) (h : RRV W base D X (.slice (some ⟨g, 0, none⟩) N c) gs L) (hk : k < N) (ho : X2.ownsRow base 3 1 (.slice (some ⟨g', 0, none⟩) r.length c') r.length (vals r))
    (hg : X.grownBy X2 (some (gs.getD k (0, 0)).1)) (hnew : g' = (gs.getD k (0, 0)).1 ∨ X.heap.size ≤ g') :
    RRV W base D (X2.setCell ⟨g, k, none⟩ (.slice (some ⟨g', 0, none⟩) r.length c')) (.slice (some ⟨g, 0, none⟩) N c) (gs.set k (g', c')) (L.set k r) := by
  obtain ⟨h1, h2, h3, h4⟩ := h
  have hW : W.heap.size ≤ X.heap.size := h4.size
  have hs : X2.grownBy (X2.setCell ⟨g, k, none⟩ (.slice (some ⟨g', 0, none⟩) r.length c')) (some g) := by
    have o1 : X2.ownsRow base 22 1 (.slice (some ⟨g, 0, none⟩) N c) L.length (rowsOf L gs) := own_mark h1.2.1 hg (fun a ha e => own_types h1.2.1 (h1.2.2.1 k (by omega)) (by decide) ha e)
    rw [hN] at o1
    exact (World.ownsRow.stored o1 k _).2
  refine ⟨rr_set hN h1 hk ho hg hnew, ?_, h3, mid_grown (mid_grown h4 hg (fun q e => ?_)) hs (fun q e => h3 q e)⟩
  · intro i hi
    rw [List.length_set] at hi
    by_cases hik : k = i
    · subst hik
      rw [getD_set_eq (by rw [h1.1]; omega)]
      rcases hnew with h | h
      · show InR W base D g'
        rw [h]; exact h2 k (by omega)
      · exact .inl (Nat.le_trans hW h)
    · rw [RRC.getD_set_ne hik]; exact h2 i hi
  · cases e
    exact h2 k (by omega)

theorem newRow_or {w : World} {b n c n' c' g : Nat} (h : NewRow w (.slice (some ⟨b, 0, none⟩) n c) (.slice (some ⟨g, 0, none⟩) n' c')) : g = b ∨ w.heap.size ≤ g := by
  rcases h with h | h
  · exact .inl (Option.some.inj h)
  · exact .inr (h g rfl)

/-- A number behind a row. -/
theorem rrv_app {W X X2 : World} {base D g N c k g' c' m : Nat} {gs : List (Nat × Nat)} {L : List (List Int)} {r : List Int} {x : Int} {o : Obj}
    (hN : L.length = N) (h : RRV W base D X (.slice (some ⟨g, 0, none⟩) N c) gs L) (hk : k < N) (hr : L.getD k [] = r) (hm : r.length = m)
    (ho : X2.ownsRow base 3 1 (.slice (some ⟨g', 0, none⟩) (m + 1) c') (m + 1) (vals r ++ [.int .i64 x]))
    (hg : (X.alloc o).grownBy X2 (some (gs.getD k (0, 0)).1)) (hnew : NewRow (X.alloc o) (.slice (some ⟨(gs.getD k (0, 0)).1, 0, none⟩) m (gs.getD k (0, 0)).2) (.slice (some ⟨g', 0, none⟩) (m + 1) c')) :
    RRV W base D (X2.setCell ⟨g, k, none⟩ (.slice (some ⟨g', 0, none⟩) (m + 1) c')) (.slice (some ⟨g, 0, none⟩) N c) (gs.set k (g', c')) (L.set k (r ++ [x])) ∧
      X2.cell? ⟨g, k, none⟩ = some (.slice (some ⟨(gs.getD k (0, 0)).1, 0, none⟩) m (gs.getD k (0, 0)).2) ∧ X2.frozen? ⟨g, k, none⟩ = false := by
  have e : vals r ++ [.int .i64 x] = vals (r ++ [x]) := by simp
  have el : (r ++ [x]).length = m + 1 := by simp [hm]
  rw [e] at ho
  have ho2 : X2.ownsRow base 3 1 (.slice (some ⟨g', 0, none⟩) (r ++ [x]).length c') (r ++ [x]).length (vals (r ++ [x])) := by rw [el]; exact ho
  have hgx : X.grownBy X2 (some (gs.getD k (0, 0)).1) := grown_trans (World.grownBy_alloc X o _) hg
  have hn := newRow_or hnew
  have h1 := rrv_set hN h hk ho2 hgx (by
    rcases hn with h | h
    · exact .inl h
    · simp at h; exact .inr (by omega))
  rw [el] at h1
  refine ⟨h1, ?_, ?_⟩
  · have o1 : X2.ownsRow base 22 1 (.slice (some ⟨g, 0, none⟩) N c) L.length (rowsOf L gs) := own_mark h.1.2.1 hgx (fun a ha e => own_types h.1.2.1 (h.1.2.2.1 k (by omega)) (by decide) ha e)
    rw [hN] at o1
    rw [o1.cellAt k (by omega), rowsOf_at (by omega), hr, hm]; rfl
  · have o1 : X2.ownsRow base 22 1 (.slice (some ⟨g, 0, none⟩) N c) L.length (rowsOf L gs) := own_mark h.1.2.1 hgx (fun a ha e => own_types h.1.2.1 (h.1.2.2.1 k (by omega)) (by decide) ha e)
    rw [hN] at o1
    exact o1.frozenAt k

/-- A number put into a row. -/
theorem rrv_put {W X : World} {base D k j : Nat} {v : Value} {gs : List (Nat × Nat)} {L : List (List Int)} {y : Int} (h : RRV W base D X v gs L) (hk : k < L.length) :
    RRV W base D (X.setCell ⟨(gs.getD k (0, 0)).1, j, none⟩ (.int .i64 y)) v gs (L.set k ((L.getD k []).set j y)) ∧ X.frozen? ⟨(gs.getD k (0, 0)).1, j, none⟩ = false := by
  obtain ⟨h1, h2, h3, h4⟩ := h
  have o1 := h1.2.2.1 k hk
  unfold sl at o1
  exact ⟨⟨rr_put h1 hk, fun i hi => h2 i (by simpa using hi), h3, mid_grown h4 (World.ownsRow.stored o1 j _).2 (fun q e => by cases e; exact h2 k hk)⟩, o1.frozenAt j⟩

theorem rr_slice {X : World} {base N : Nat} {v : Value} {gs : List (Nat × Nat)} {L : List (List Int)} (h : RR X base v gs L) (hN : L.length = N) (hp : 0 < N) : ∃ g c, v = .slice (some ⟨g, 0, none⟩) N c := by
  have := own_pos h.2.1 (by omega)
  rw [hN] at this
  exact this

theorem cell_two_new (w : World) (o : Obj) (x : Value) (t : TypeId) (h : Nat) (hh : w.heap.size = h) : ∀ j u, [x][j]? = some u → ((w.alloc o).alloc (.cells #[x] t)).cell? ((⟨h + 1, 0, none⟩ : Addr).add j) = some u := by
  intro j u hu
  have := cell_one_new (w.alloc o) x t j u hu
  rw [World.size_alloc, hh] at this
  exact this

theorem drawn_drew {w w' : World} (h : Drawn w w') : Drawn w w'.drew := by
  obtain ⟨m, rfl⟩ := h; exact ⟨m + 1, rfl⟩

/-- What is owned is the heap's alone. -/
theorem own_hp {w w' : World} (h : w'.heap = w.heap) {base size n : Nat} {ty : TypeId} {v : Value} {xs : List Value} (ho : w.ownsRow base ty size v n xs) : w'.ownsRow base ty size v n xs := by
  unfold World.ownsRow at *; rw [h]; exact ho

end Go.Proofs.Ytpkjnlabjmpokaa.RRVC

/-
  Contract: the program puts a number behind one of some lists. Conditions: at most 100 lists, each of at most 100 numbers.
-/
namespace Go.Proofs.Ytpkjnlabjmpokaa.PutBC
open Go.RowKit SeesC IntsC ExactC ListsC ListsEC ListsFC LLC RagMarkC RagResC RRC AppendTwoC QueM RRVC SameC

theorem rr_append {X : World} {base N : Nat} {v : Value} {gs : List (Nat × Nat)} {L : List (List Int)} (h : RR X base v gs L) (hN : L.length = N) (o1 o2 : Obj) :
    ((X.alloc o1).alloc o2).ownsRow base 22 1 v N (rowsOf L gs) := by
  have := h.2.1
  rw [hN] at this
  exact (this.alloc _).alloc _

set_option maxRecDepth 100000 in
set_option maxHeartbeats 2000000 in
theorem putBehind_old (base D : Nat) (L : List (List Int)) (k : Nat) (x : Int) (W : World) (g N c : Nat) (hN : L.length = N) (hk : k < N) (hv : RagV W base D (.slice (some ⟨g, 0, none⟩) N c) L) (hb : base ≤ W.heap.size) (hr1 : (L.getD k []).length ≤ 100) :
    Calls Try.prog 123 #[.slice (some ⟨g, 0, none⟩) N c, .int .i64 k, .int .i64 x] W fun e w' => ∃ v', e = .returned v' ∧ Rag w' base v' (putL L k x) ∧ Mid base D W w' := by
  obtain ⟨i0, hi, hz0, hz1, hz2⟩ := info_parts infoI
  obtain ⟨gs, H⟩ := rrv_start hv
  have HR := Go.Lib.hid H
  obtain ⟨p, hp⟩ : ∃ p, gs.getD k (0, 0) = p := ⟨_, rfl⟩
  obtain ⟨r, hr⟩ : ∃ r, L.getD k [] = r := ⟨_, rfl⟩
  obtain ⟨m, hm⟩ : ∃ m, r.length = m := ⟨_, rfl⟩
  have hhd := H.1.head hN hk
  have hrow := H.1.2.2.1 k (by omega)
  rw [hr] at hr1
  rw [hp, hr, hm] at hhd
  rw [hp, hr, hm] at hrow
  unfold sl at hrow
  have HO := Go.Lib.hid hrow
  have HP := Go.Lib.hid (And.intro hN (And.intro hr (And.intro hm (And.intro hp hb))))
  have hm100 : m ≤ 100 := by omega
  have hki : (k : Int) < (N : Int) := by omega
  have hkn : ((k : Int) == (N : Int)) = false := by rw [beq_eq_false_iff_ne]; omega
  obtain ⟨p1, p2⟩ := p
  simp only at hhd HO
  have HPUT : Hid (putL L k x = L.set k (r ++ [x])) := Go.Lib.hid (by unfold putL; rw [if_pos (by omega), hr])
  clear H hv hp hr hm hrow hr1 hN
  go_enter Try.func123, Try.ntmps123
  go_wp2_with (at_builtin; refine wpList_append_two _ rfl _ _ 22 rfl base 3 i0 (.int .i64 0) 1 8 Try.underlying22 hi hz0 hz1 hz2 rfl (by decide) (.slice (some ⟨p1, 0, none⟩) m p2) m (vals r) rfl (HO.out.alloc _) ⟨W.heap.size, 0, none⟩ 1 1 [.int .i64 x] rfl rfl (cell_one_new _ _ _) (fun x hx => by simp at hx; subst hx; rfl) (by unfold maxLen; omega) (by omega) (by have := HP.out.2.2.2.2; simp; omega) ?_; intro v' w3 hown3 hgrow3 hnew3; obtain ⟨g3, c3, rfl⟩ := ownsRow_succ hown3; obtain ⟨hH3, hc3, hf3⟩ := rrv_app (x := x) HP.out.1 HR.out hk HP.out.2.1 HP.out.2.2.1 hown3 (by rw [HP.out.2.2.2.1]; exact hgrow3) (by rw [HP.out.2.2.2.1]; exact hnew3); have H3 := Go.Lib.hid hH3; clear hown3 hgrow3 hnew3 hH3)
  go_ret
  exact ⟨_, rfl, by rw [HPUT.out]; exact H3.out.rag.1, H3.out.rag.2⟩

set_option maxRecDepth 100000 in
set_option maxHeartbeats 2000000 in
theorem putBehind_new (base D : Nat) (L : List (List Int)) (x : Int) (W : World) (v : Value) (N : Nat) (hN : L.length = N) (hv : RagV W base D v L) (hb : base ≤ W.heap.size) (hN1 : N ≤ 100) :
    Calls Try.prog 123 #[v, .int .i64 N, .int .i64 x] W fun e w' => ∃ v', e = .returned v' ∧ Rag w' base v' (putL L N x) ∧ Mid base D W w' := by
  obtain ⟨i0, hi, hz0, hz1, hz2⟩ := info_parts infoI
  obtain ⟨j0, hj, hy0, hy1, hy2⟩ := info_parts infoL
  obtain ⟨gs, H⟩ := rrv_start hv
  have HR := Go.Lib.hid H
  have HO := Go.Lib.hid (rr_append H.1 hN)
  have HP := Go.Lib.hid (And.intro hN hb)
  have hnn : ((N : Int) == (N : Int)) = true := by simp
  have HPUT : Hid (putL L N x = (L ++ [[]]).set N ([] ++ [x])) := Go.Lib.hid (by
    unfold putL; rw [if_neg (by omega), ← hN, List.set_append_right _ _ (Nat.le_refl _)]; simp)
  obtain ⟨a, c, rfl⟩ : ∃ a c, v = .slice a N c := by
    obtain ⟨a, c, h⟩ := (RagV.sees hv).value
    rw [hN] at h
    exact ⟨a, c, h⟩
  clear H hv hN hb
  go_enter Try.func123, Try.ntmps123
  go_wp2_with (first
    | (at_builtin; have hX := H3; refine wpList_append_two _ rfl _ _ 22 rfl base 3 i0 (.int .i64 0) 1 8 Try.underlying22 hi hz0 hz1 hz2 rfl (by decide) (.slice (some ⟨W.heap.size, 0, none⟩) 0 0) 0 [] rfl (HO3.out.alloc _) ⟨w3.heap.size, 0, none⟩ 1 1 [.int .i64 x] rfl rfl (cell_one_new _ _ _) (fun x hx => by simp at hx; subst hx; rfl) (by unfold maxLen; omega) (by omega) (by have := HP.out.2; have := H3.out.2.2.2.size; simp; omega) ?_; intro v' w4 hown4 hgrow4 hnew4; obtain ⟨g4, c4, rfl⟩ := ownsRow_succ hown4; obtain ⟨hH4, hc4, hf4⟩ := rrv_app (x := x) (r := []) (m := 0) HL3.out.1 H3.out (by omega) HL3.out.2.1 rfl hown4 (by rw [HL3.out.2.2]; exact hgrow4) (by rw [HL3.out.2.2]; exact hnew4); rw [HL3.out.2.2] at hc4; have H4 := Go.Lib.hid hH4; clear hown4 hgrow4 hnew4 hH4)
    | (at_builtin; refine wpList_append_two _ rfl _ _ 32 rfl base 22 j0 (.slice none 0 0) 1 24 Try.underlying32 hj hy0 hy1 hy2 rfl (by decide) (.slice a N c) N (rowsOf L gs) rfl (HO.out _ _) ⟨W.heap.size + 1, 0, none⟩ 1 1 [.slice (some ⟨W.heap.size, 0, none⟩) 0 0] rfl rfl (fun jj u hu => by have := cell_one_new (W.alloc (.cells #[] 3)) (.slice (some ⟨W.heap.size, 0, none⟩) 0 0) 22 jj u hu; simpa using this) (fun x hx => by simp at hx; subst hx; rfl) (by unfold maxLen; omega) (by omega) (by have := HP.out.2; simp; omega) ?_; intro v' w3 hown3 hgrow3 hnew3; obtain ⟨g3, c3, rfl⟩ := ownsRow_succ hown3; have hH3 := rrv_new HP.out.1 HR.out HP.out.2 hown3 hgrow3 hnew3; have H3 := Go.Lib.hid hH3; have HL3 : Hid ((L ++ [[]]).length = N + 1 ∧ (L ++ [[]]).getD N [] = [] ∧ (gs ++ [(W.heap.size, 0)]).getD N (0, 0) = (W.heap.size, 0)) := Go.Lib.hid ⟨by simp [HP.out.1], by rw [← HP.out.1, getD_cat_r], by rw [← HP.out.1, ← HR.out.1.1, getD_cat_r]⟩; have hc3 := hH3.1.head HL3.out.1 (show N < N + 1 by omega); rw [HL3.out.2.1, HL3.out.2.2] at hc3; have HO3 : Hid (w3.ownsRow base 3 1 (.slice (some ⟨W.heap.size, 0, none⟩) 0 0) 0 []) := Go.Lib.hid (by have h := hH3.1.2.2.1 N (by rw [HL3.out.1]; omega); rw [HL3.out.2.1, HL3.out.2.2] at h; exact h); clear hown3 hgrow3 hnew3 hH3))
  go_ret
  exact ⟨_, rfl, by rw [HPUT.out]; exact H4.out.rag.1, H4.out.rag.2⟩

theorem putBehind_any (base D : Nat) (L : List (List Int)) (k : Nat) (x : Int) (W : World) (v : Value) (hk : k ≤ L.length) (hv : RagV W base D v L) (hb : base ≤ W.heap.size) (hN1 : L.length ≤ 100) (hr1 : tot L ≤ 100) :
    Calls Try.prog 123 #[v, .int .i64 k, .int .i64 x] W fun e w' => ∃ v', e = .returned v' ∧ Rag w' base v' (putL L k x) ∧ Mid base D W w' := by
  by_cases h : k < L.length
  · obtain ⟨gs, H⟩ := rrv_start hv
    obtain ⟨g, c, rfl⟩ := rr_slice H.1 rfl (by omega)
    exact putBehind_old base D L k x W g L.length c rfl h hv hb (Nat.le_trans (tot_row h) hr1)
  · have e : k = L.length := by omega
    subst e
    exact putBehind_new base D L x W v L.length rfl hv hb hN1

/-- The same where all of the lists is the call's own, behind draws. -/
theorem putBehind_in {W wo wd : World} {base : Nat} {v : Value} {Q : List (List Int)} (k : Nat) (x : Int) (hR : Rag wo base v Q) (hb : Below base W wo) (hW : base ≤ W.heap.size) (hd : Drawn wo wd) (hk : k ≤ Q.length) (hN1 : Q.length ≤ 100) (hr1 : tot Q ≤ 100) :
    Calls Try.prog 123 #[v, .int .i64 k, .int .i64 x] wd fun e w' => ∃ a c, e = .returned (.slice a (putL Q k x).length c) ∧ Rag w' base (.slice a (putL Q k x).length c) (putL Q k x) ∧ Below base W w' := by
  have h1 : Rag wd base v Q := Rag.kept hR (hd.below _)
  have h2 : base ≤ wd.heap.size := by rw [hd.heap]; exact Nat.le_trans hW hb.size
  refine (putBehind_any base wd.heap.size Q k x wd v hk (Rag.ragv h1) h2 hN1 hr1).mono ?_
  rintro e w' ⟨v', rfl, hr, hm⟩
  obtain ⟨a, c, rfl⟩ := (Rag.sees hr).value
  exact ⟨a, c, rfl, hr, hb.trans ((hd.below _).trans (mid_below hm h2))⟩

end Go.Proofs.Ytpkjnlabjmpokaa.PutBC

/-
  Contract: QueuesOf of the program. Conditions: lists of at most 2^20 numbers.
-/
namespace Go.Proofs.Ytpkjnlabjmpokaa.QueIC
open Go.RowKit SeesC IntsC ExactC OrdMath InC OrderC ListsC ListsEC ListsFC LLC RagMarkC RagResC RRC AppendTwoC QueM RRVC PutBC

/-- The last number of a row, where it lies. -/
theorem rr_last {X : World} {base : Nat} {v : Value} {gs : List (Nat × Nat)} {L : List (List Int)} (h : RR X base v gs L) {k m : Nat} (hk : k < L.length) (hm : (L.getD k []).length = m + 1) :
    X.cell? ⟨(gs.getD k (0, 0)).1, m, none⟩ = some (.int .i64 (last (L.getD k []))) := by
  rw [h.num hk (by omega)]
  unfold last
  rw [hm]; rfl

set_option maxRecDepth 100000 in
set_option maxHeartbeats 4000000 in
theorem implQueues (zs : List Int) (L : List (List Int)) (b : Bool) (h : queuesAns zs = (L, b)) (hz : zs.length ≤ 1048576) (W : World) (v : Value) (n : Nat) (hv : Sees W v n (vals zs)) :
    Calls Try.prog 142 #[v] W fun e w' => RagTo W e w' L b := by
  have hl : zs.length = n := by simpa using hv.1
  have hn : n ≤ 1048576 := by omega
  obtain ⟨r, hr⟩ : ∃ r, isOrd zs = r := ⟨_, rfl⟩
  have CO := Go.Lib.hid (fun W' (hs' : Sees W' v n (vals zs)) => implOrder_any W' v n zs r hs' hn hr)
  have HV := Go.Lib.hid hv
  unfold queuesAns at h
  obtain ⟨_, ad, cap, rfl, _, _⟩ := hv
  cases r with
  | false =>
    rw [if_neg (by intro h1; unfold isOrd at hr; exact of_decide_eq_false hr h1)] at h
    cases h
    clear hr
    go_enter Try.func142, Try.ntmps142
    go_wp2_with fail
    refine (CO.out _ HV.out).mono ?_
    rintro e w1 ⟨rfl, hd⟩
    have HB1 : Hid (Below W.heap.size W w1) := Go.Lib.hid hd
    clear hd
    go_wp2_with fail
    go_ret2
    exact ragTo_below HB1.out (ragTo_none _ _)
  | true =>
    have hord : Ord zs := by unfold isOrd at hr; exact of_decide_eq_true hr
    have hn7 : n ≤ 7 := by have := hord.2.1; omega
    have hn1 : 1 ≤ n := by have := hord.1; omega
    rw [if_pos hord] at h
    cases h
    clear hr
    obtain ⟨b, o, cap2, heq, _, _, hbl, hcell⟩ := sees_cells HV.out (by omega)
    cases heq
    have HC := Go.Lib.hid hcell
    have HL := Go.Lib.hid hl
    rw [hl]
    clear hcell hl hz
    go_enter Try.func142, Try.ntmps142
    go_wp2_with fail
    refine (CO.out _ HV.out).mono ?_
    rintro e w1 ⟨rfl, hd⟩
    have HB1 : Hid (Below W.heap.size W w1) := Go.Lib.hid hd
    clear hd
    have hr0 := Go.Lib.hid (rag_made w1 W.heap.size HB1.out.size)
    have hb0 := Go.Lib.hid (HB1.out.alloc HB1.out.size (.cells #[] 22))
    go_wp2_with fail
    go_loopw [4, 15] (fun qv iv wr => ∃ (i N c : Nat) (a : Option Addr) (Q : List (List Int)), i ≤ n ∧ iv = .int .i64 i ∧ qv = .slice a N c ∧ N ≤ 7 ∧ Hid (Q = qTo zs i ∧ Q.length = N ∧ Rag wr W.heap.size (.slice a N c) Q ∧ Below W.heap.size W wr)) (fun _ i _ => n - (intOf i).toNat)
    case atStart => exact ⟨0, 0, _, _, [], Nat.zero_le _, rfl, rfl, by omega, Go.Lib.hid ⟨rfl, rfl, hr0.out, hb0.out⟩⟩
    case round =>
      obtain ⟨i, N, c, a, Q, hin, rfl, rfl, hN7, HQ⟩ := hrel
      clear hr0 hb0
      by_cases hlt : i < n
      · have hck : wr.cell? ⟨b, o + i, none⟩ = some (.int .i64 (zs.getD i 0)) := (HQ.out.2.2.2.cell (p := ⟨b, o + i, none⟩) hbl).trans (HC.out i (by have := HL.out; omega))
        obtain ⟨x, hx⟩ : ∃ x, zs.getD i 0 = x := ⟨_, rfl⟩
        rw [hx] at hck
        have HX := Go.Lib.hid hx
        obtain ⟨wo, rfl⟩ : ∃ wo, wo = wr := ⟨_, rfl⟩
        obtain ⟨gs, hgs⟩ := rag_rr HQ.out.2.2.1
        have HG := Go.Lib.hid hgs
        have hok := qTo_ok zs i
        rw [← HQ.out.1] at hok
        have HOK := Go.Lib.hid hok
        have hlti : (i : Int) < (n : Int) := by omega
        clear hx hgs hok
        go_wp2_with fail
        go_loopw [7] (fun kv wr => ∃ k : Nat, k ≤ N ∧ kv = .int .i64 k ∧ Hid (Drawn wo wr ∧ ∀ j, j < k → last (Q.getD j []) > x)) (fun k _ => N - (intOf k).toNat)
        case atStart => exact ⟨0, Nat.zero_le _, rfl, Go.Lib.hid ⟨Drawn.refl _, fun j hj => by omega⟩⟩
        case round =>
          obtain ⟨k, hkN, rfl, HK⟩ := hrel
          by_cases hkl : k < N
          · obtain ⟨m, hm⟩ : ∃ m, (Q.getD k []).length = m + 1 := ⟨(Q.getD k []).length - 1, by have := HOK.out.2.2 k (by have := HQ.out.2.1; omega); omega⟩
            have hm7 : m ≤ 7 := by
              have h1 := tot_row (L := Q) (i := k) (by have := HQ.out.2.1; omega)
              have h2 := HOK.out.2.1
              omega
            obtain ⟨p, hp⟩ : ∃ p, gs.getD k (0, 0) = p := ⟨_, rfl⟩
            obtain ⟨y, hy⟩ : ∃ y, last (Q.getD k []) = y := ⟨_, rfl⟩
            obtain ⟨g, c', hgc⟩ := rr_slice HG.out HQ.out.2.1 (by omega)
            cases hgc
            have hhd := (HK.out.1.cell ⟨g, k, none⟩).trans (HG.out.head HQ.out.2.1 hkl)
            have hlast := (HK.out.1.cell ⟨(gs.getD k (0, 0)).1, m, none⟩).trans (rr_last HG.out (by have := HQ.out.2.1; omega) hm)
            rw [hp, hm] at hhd
            rw [hp, hy] at hlast
            have HY := Go.Lib.hid hy
            obtain ⟨p1, p2⟩ := p
            simp only at hhd hlast
            have hkli : (k : Int) < (N : Int) := by omega
            have hkd : decide (k < N) = true := decide_eq_true hkl
            clear hp hm hy
            by_cases hgt : y > x
            · have HK2 : Hid (∀ j, j < k + 1 → last (Q.getD j []) > x) := Go.Lib.hid (fun j hj => by
                by_cases e : j = k
                · rw [e, HY.out]; exact hgt
                · exact HK.out.2 j (by omega))
              have hgd : decide (x < y) = true := decide_eq_true hgt
              go_wp2
              go_quiet (fail)
              go_wp2
              go_roundw
              case rel => exact ⟨k + 1, by omega, by go_num, Go.Lib.hid ⟨HK.out.1.next _, HK2.out⟩⟩
              case measure => simp [intOf]; omega
            · have HAT : Hid (qAt Q x = k) := Go.Lib.hid (qAt_is Q x k (by have := HQ.out.2.1; omega) HK.out.2 (fun _ => by rw [HY.out]; exact hgt))
              have hgd : decide (x < y) = false := decide_eq_false hgt
              have CP := Go.Lib.hid (fun m => putBehind_in (W := W) (wd := wr.drewN m) k x HQ.out.2.2.1 HQ.out.2.2.2 (Nat.le_refl _) (HK.out.1.next m) (by have := HQ.out.2.1; omega) (by have := HQ.out.2.1; omega) (by have := HOK.out.2.1; omega))
              go_wp2
              go_quiet (fail)
              go_wp2_with fail
              refine (CP.out _).mono ?_
              rintro e w5 ⟨a5, c5, rfl, hr5, hb5⟩
              obtain ⟨N5, hN5⟩ : ∃ N5, (putL Q k x).length = N5 := ⟨_, rfl⟩
              rw [hN5] at hr5
              have H5 : Hid (putL Q k x = qTo zs (i + 1) ∧ (putL Q k x).length = N5 ∧ Rag w5 W.heap.size (.slice a5 N5 c5) (putL Q k x) ∧ Below W.heap.size W w5) := Go.Lib.hid ⟨by
                show _ = putL (qTo zs i) (qAt (qTo zs i) (zs.getD i 0)) (zs.getD i 0)
                rw [← HQ.out.1, HX.out, HAT.out], hN5, hr5, hb5⟩
              have hl5 : N5 ≤ 7 := by rw [← hN5, H5.out.1]; have := (qTo_ok zs (i + 1)).1; omega
              have HN5 := Go.Lib.hid hN5
              clear hr5 hb5 hN5
              rw [HN5.out]
              go_wp2_with fail
              go_roundw
              case rel => exact ⟨i + 1, N5, c5, a5, putL Q k x, by omega, by go_num, rfl, hl5, H5⟩
              case measure => simp [intOf]; omega
          · have hkE : k = N := by omega
            subst hkE
            have HAT : Hid (qAt Q x = k) := Go.Lib.hid (qAt_is Q x k (by have := HQ.out.2.1; omega) HK.out.2 (fun h => by have := HQ.out.2.1; omega))
            have hkd : decide (k < k) = false := decide_eq_false (Nat.lt_irrefl _)
            have CP := Go.Lib.hid (fun m => putBehind_in (W := W) (wd := wr.drewN m) k x HQ.out.2.2.1 HQ.out.2.2.2 (Nat.le_refl _) (HK.out.1.next m) (by have := HQ.out.2.1; omega) (by have := HQ.out.2.1; omega) (by have := HOK.out.2.1; omega))
            go_wp2
            go_quiet (fail)
            go_wp2_with fail
            refine (CP.out _).mono ?_
            rintro e w5 ⟨a5, c5, rfl, hr5, hb5⟩
            obtain ⟨N5, hN5⟩ : ∃ N5, (putL Q k x).length = N5 := ⟨_, rfl⟩
            rw [hN5] at hr5
            have H5 : Hid (putL Q k x = qTo zs (i + 1) ∧ (putL Q k x).length = N5 ∧ Rag w5 W.heap.size (.slice a5 N5 c5) (putL Q k x) ∧ Below W.heap.size W w5) := Go.Lib.hid ⟨by
              show _ = putL (qTo zs i) (qAt (qTo zs i) (zs.getD i 0)) (zs.getD i 0)
              rw [← HQ.out.1, HX.out, HAT.out], hN5, hr5, hb5⟩
            have hl5 : N5 ≤ 7 := by rw [← hN5, H5.out.1]; have := (qTo_ok zs (i + 1)).1; omega
            have HN5 := Go.Lib.hid hN5
            clear hr5 hb5 hN5
            rw [HN5.out]
            go_wp2_with fail
            go_roundw
            case rel => exact ⟨i + 1, N5, c5, a5, putL Q k x, by omega, by go_num, rfl, hl5, H5⟩
            case measure => simp [intOf]; omega
      · have hie : i = n := by omega
        subst hie
        have HF : Hid (RagTo W (.returned (.tuple #[.slice a N c, .bool true])) wr (qTo zs i) true) := Go.Lib.hid (by
          rw [← HQ.out.1]; exact ⟨_, rfl, HQ.out.2.2.1, HQ.out.2.2.2⟩)
        go_wp2
        go_ret2
        exact HF.out

end Go.Proofs.Ytpkjnlabjmpokaa.QueIC

/-
  Contract: the program's runs. Conditions: an order.
-/
namespace Go.Proofs.Ytpkjnlabjmpokaa.RunIC
open Go.RowKit SeesC IntsC ExactC OrdMath InC OrderC ListsC ListsEC ListsFC LLC RagMarkC RagResC RRC AppendTwoC QueM RRVC PutBC QueIC PassM

/-- The number before the i-th one. -/
def prev (zs : List Int) (i : Nat) : Int := if i = 0 then 0 else zs.getD (i - 1) 0

theorem prev_bd {zs : List Int} (h : Ord zs) {i : Nat} (hi : i ≤ zs.length) : 0 ≤ prev zs i ∧ prev zs i ≤ 7 := by
  unfold prev
  split
  · omega
  · obtain ⟨m, h1, h2⟩ := h.getD (k := i - 1) (by omega)
    have := h.2.1
    omega

theorem run_yes {zs : List Int} (h : Ord zs) {i : Nat} (hi : i < zs.length) (hx : zs.getD i 0 < prev zs i) : runAt zs (rTo zs i) i = (rTo zs i).length ∧ 1 ≤ i ∧ 1 ≤ (rTo zs i).length := by
  obtain ⟨m, h1, h2⟩ := h.getD hi
  have h0 : i ≠ 0 := by
    intro e
    subst e
    unfold prev at hx
    rw [if_pos rfl] at hx
    omega
  unfold prev at hx
  rw [if_neg h0] at hx
  refine ⟨?_, by omega, (rTo_ok zs i).2.2.2 (by omega)⟩
  unfold runAt
  rw [if_pos (.inr hx)]

theorem run_no {zs : List Int} {i : Nat} (hx : ¬ zs.getD i 0 < prev zs i) : runAt zs (rTo zs i) i = (rTo zs i).length - 1 := by
  by_cases h0 : i = 0
  · subst h0; rfl
  · unfold prev at hx
    rw [if_neg h0] at hx
    unfold runAt
    rw [if_neg (by omega)]

theorem run_next (zs : List Int) (i : Nat) {k : Nat} {x : Int} {R : List (List Int)} (hR : R = rTo zs i) (hk : runAt zs (rTo zs i) i = k) (hx : zs.getD i 0 = x) : putL R k x = rTo zs (i + 1) := by
  subst hR
  show _ = putL (rTo zs i) (runAt zs (rTo zs i) i) (zs.getD i 0)
  rw [hk, hx]

theorem prev_next (zs : List Int) (i : Nat) : prev zs (i + 1) = zs.getD i 0 := rfl

set_option maxRecDepth 100000 in
set_option maxHeartbeats 4000000 in
theorem runsOf_any (zs : List Int) (hord : Ord zs) (W : World) (v : Value) (n : Nat) (hv : Sees W v n (vals zs)) :
    Calls Try.prog 83 #[v] W fun e w' => LTo W e w' (rTo zs n) := by
  have hl : zs.length = n := by simpa using hv.1
  have hn7 : n ≤ 7 := by have := hord.2.1; omega
  have hn1 : 1 ≤ n := by have := hord.1; omega
  obtain ⟨b, o, cap2, rfl, _, _, hbl, hcell⟩ := sees_cells hv (by omega)
  have HC := Go.Lib.hid hcell
  have HL := Go.Lib.hid hl
  have hr0 := Go.Lib.hid (rag_made W W.heap.size (Nat.le_refl _))
  have hb0 := Go.Lib.hid ((Below.refl W.heap.size W).alloc (Nat.le_refl _) (.cells #[] 22))
  clear hcell hl hv
  go_enter Try.func83, Try.ntmps83
  go_wp2
  go_loopw [3, 4, 5, 11] (fun qv rv lv iv wr => ∃ (i N c : Nat) (a : Option Addr) (R : List (List Int)) (rn : Nat) (ls : Int), i ≤ n ∧ iv = .int .i64 i ∧ qv = .slice a N c ∧ rv = .int .i64 rn ∧ lv = .int .i64 ls ∧ N ≤ 7 ∧ rn ≤ 7 ∧ 0 ≤ ls ∧ ls ≤ 7 ∧ Hid (R = rTo zs i ∧ R.length = N ∧ Rag wr W.heap.size (.slice a N c) R ∧ Below W.heap.size W wr ∧ rn = N - 1 ∧ ls = prev zs i)) (fun _ _ _ i _ => n - (intOf i).toNat)
  case atStart => exact ⟨0, 0, _, _, [], 0, 0, Nat.zero_le _, rfl, rfl, rfl, rfl, by omega, by omega, by omega, by omega, Go.Lib.hid ⟨rfl, rfl, hr0.out, hb0.out, rfl, rfl⟩⟩
  case round =>
    obtain ⟨i, N, c, a, R, rn, ls, hin, rfl, rfl, rfl, rfl, hN7, hrn7, hls0, hls7, HQ⟩ := hrel
    clear hr0 hb0
    by_cases hlt : i < n
    · have hck : wr.cell? ⟨b, o + i, none⟩ = some (.int .i64 (zs.getD i 0)) := (HQ.out.2.2.2.1.cell (p := ⟨b, o + i, none⟩) hbl).trans (HC.out i (by have := HL.out; omega))
      obtain ⟨x, hx⟩ : ∃ x, zs.getD i 0 = x := ⟨_, rfl⟩
      obtain ⟨qm, hq1, hq2⟩ := hord.getD (k := i) (by have := HL.out; omega)
      rw [hx] at hck hq1
      have hx1 : 1 ≤ x := by omega
      have hx7 : x ≤ 7 := by have := HL.out; omega
      have HX := Go.Lib.hid hx
      have hok := rTo_ok zs i
      rw [← HQ.out.1] at hok
      have HOK := Go.Lib.hid hok
      have hlti : (i : Int) < (n : Int) := by omega
      clear hx hok hq1 hq2
      by_cases hxl : x < ls
      · have hyes := run_yes hord (i := i) (by have := HL.out; omega) (by rw [HX.out, ← HQ.out.2.2.2.2.2]; exact hxl)
        have HN := Go.Lib.hid (run_next zs i (k := rn + 1) HQ.out.1 (by rw [hyes.1, ← HQ.out.1]; have h1 := HQ.out.2.1; have h2 := HQ.out.2.2.2.2.1; have h3 := hyes.2.2; rw [← HQ.out.1] at h3; omega) HX.out)
        have HAT : Hid (rn + 1 = N) := Go.Lib.hid (by have h1 := HQ.out.2.1; have h2 := HQ.out.2.2.2.2.1; have h3 := hyes.2.2; rw [← HQ.out.1] at h3; omega)
        have hrn1 : rn + 1 ≤ 7 := by have := HAT.out; omega
        have CP : Hid (Calls Try.prog 123 #[.slice a N c, .int .i64 ((rn : Int) + 1), .int .i64 x] wr _) := Go.Lib.hid (putBehind_in (W := W) (wd := wr) (rn + 1) x HQ.out.2.2.1 HQ.out.2.2.2.1 (Nat.le_refl _) (Drawn.refl _) (by have := HQ.out.2.1; have := HAT.out; omega) (by have := HQ.out.2.1; omega) (by have := HOK.out.2.1; omega))
        have hxd : decide (x < ls) = true := decide_eq_true hxl
        clear hyes
        go_wp2_with fail
        refine (CP.out).mono ?_
        rintro e w5 ⟨a5, c5, rfl, hr5, hb5⟩
        obtain ⟨N5, hN5⟩ : ∃ N5, (putL R (rn + 1) x).length = N5 := ⟨_, rfl⟩
        rw [hN5] at hr5
        have hl5 : N5 ≤ 7 := by rw [← hN5, HN.out]; have := (rTo_ok zs (i + 1)).1; omega
        have H5 : Hid (putL R (rn + 1) x = rTo zs (i + 1) ∧ (putL R (rn + 1) x).length = N5 ∧ Rag w5 W.heap.size (.slice a5 N5 c5) (putL R (rn + 1) x) ∧ Below W.heap.size W w5 ∧ (rn + 1) = N5 - 1 ∧ x = prev zs (i + 1)) := Go.Lib.hid ⟨HN.out, hN5, hr5, hb5, by rw [← hN5, putL_len]; have := HQ.out.2.1; have := HQ.out.2.2.2.2.1; have := HAT.out; split <;> omega, by rw [prev_next, HX.out]⟩
        have HN5 := Go.Lib.hid hN5
        clear hr5 hb5 hN5
        rw [HN5.out]
        go_wp2_with fail
        go_roundw
        case rel => exact ⟨i + 1, N5, c5, a5, putL R (rn + 1) x, (rn + 1), x, by omega, by go_num, rfl, by first | rfl | go_num, rfl, hl5, by omega, by omega, by omega, H5⟩
        case measure => simp [intOf]; omega
      · have HN := Go.Lib.hid (run_next zs i (k := rn) HQ.out.1 (by rw [run_no (by rw [HX.out, ← HQ.out.2.2.2.2.2]; exact hxl), ← HQ.out.1]; have h1 := HQ.out.2.1; have h2 := HQ.out.2.2.2.2.1; omega) HX.out)
        have HAT : Hid (rn = N - 1) := Go.Lib.hid HQ.out.2.2.2.2.1
        have hrn1 : rn ≤ 7 := hrn7
        have CP := Go.Lib.hid (putBehind_in (W := W) (wd := wr) rn x HQ.out.2.2.1 HQ.out.2.2.2.1 (Nat.le_refl _) (Drawn.refl _) (by have := HQ.out.2.1; have := HAT.out; omega) (by have := HQ.out.2.1; omega) (by have := HOK.out.2.1; omega))
        have hxd : decide (x < ls) = false := decide_eq_false hxl
        go_wp2_with fail
        refine (CP.out).mono ?_
        rintro e w5 ⟨a5, c5, rfl, hr5, hb5⟩
        obtain ⟨N5, hN5⟩ : ∃ N5, (putL R rn x).length = N5 := ⟨_, rfl⟩
        rw [hN5] at hr5
        have hl5 : N5 ≤ 7 := by rw [← hN5, HN.out]; have := (rTo_ok zs (i + 1)).1; omega
        have H5 : Hid (putL R rn x = rTo zs (i + 1) ∧ (putL R rn x).length = N5 ∧ Rag w5 W.heap.size (.slice a5 N5 c5) (putL R rn x) ∧ Below W.heap.size W w5 ∧ rn = N5 - 1 ∧ x = prev zs (i + 1)) := Go.Lib.hid ⟨HN.out, hN5, hr5, hb5, by rw [← hN5, putL_len]; have := HQ.out.2.1; have := HQ.out.2.2.2.2.1; have := HAT.out; split <;> omega, by rw [prev_next, HX.out]⟩
        have HN5 := Go.Lib.hid hN5
        clear hr5 hb5 hN5
        rw [HN5.out]
        go_wp2_with fail
        go_roundw
        case rel => exact ⟨i + 1, N5, c5, a5, putL R rn x, rn, x, by omega, by go_num, rfl, by first | rfl | go_num, rfl, hl5, by omega, by omega, by omega, H5⟩
        case measure => simp [intOf]; omega
    · have hie : i = n := by omega
      subst hie
      have HF := Go.Lib.hid (lto_of HQ.out.2.2.1 HQ.out.2.2.2.1 HQ.out.2.1 HQ.out.1)
      go_wp2
      go_ret
      exact HF.out

end Go.Proofs.Ytpkjnlabjmpokaa.RunIC

/-
  Contract: MeanRuns of the program. Conditions: none.
-/
namespace Go.Proofs.Ytpkjnlabjmpokaa.ChMeanRunsIC
open Go.RowKit SeesC IntsC ExactC OrdMath AllO ListsC Arr2C ChM ChQ UsedC MeanOC MeanOC OrdersIterC CollOC KnownC QueM RunIC RagResC
set_option linter.unusedVariables false

def tellMeanRuns (zs : List Int) : Nat := (rTo zs zs.length).length

set_option maxRecDepth 100000 in
set_option maxHeartbeats 1000000 in
theorem sayMeanRuns (m : Nat) (hm1 : 1 ≤ m) (hm7 : m ≤ 7) (W : World) : TellO 82 #[] m (allO m) tellMeanRuns W := by
  intro zs hz X u hX hs
  have hord := ((mem_allO hm1 hm7).1 hz).1
  have hlen := ((mem_allO hm1 hm7).1 hz).2
  have CF := Go.Lib.hid ((show rTo zs m = rTo zs zs.length by rw [hlen]) ▸ runsOf_any zs hord X u m hs)
  have HH := Go.Lib.hid (And.intro hord hlen)
  obtain ⟨_, ad, cap, rfl, _, _⟩ := hs
  clear hord hlen hz hX
  go_enter Try.func82, Try.ntmps82
  go_wp2_with fail
  refine (CF.out).mono ?_
  rintro e w1 ⟨va, vc, rfl, ho, hb⟩
  have H1 := Go.Lib.hid hb
  clear hb CF ho
  go_wp2
  go_ret
  exact ⟨rfl, H1.out⟩

set_option maxRecDepth 100000 in
set_option maxHeartbeats 1000000 in
theorem implMeanRuns (hbd : ∀ m, 1 ≤ m → m ≤ 6 → ∀ zs ∈ allO m, tellMeanRuns zs ≤ 1000) (n : Int) (a b : Nat) (ok : Bool) (h : chAns n (fun m => meanL (allO m) tellMeanRuns) = (a, b, ok)) (hw : (Lit.int .i64 n).wf = true) (W : World) :
    Calls Try.prog 35 #[.int .i64 n] W fun e w' => FracTo W e w' a b ok := by
  have hA0 := arr2_alloc W (.int .i64 0) (.int .i64 0)
  have hB0 : Below W.heap.size W (W.alloc (.cells #[.int .i64 0, .int .i64 0] 23)) := (Below.refl _ W).alloc (Nat.le_refl _) _
  have HA := Go.Lib.hid (And.intro hA0 hB0)
  have CD := Go.Lib.hid (drawnOrders_any n hw (W.alloc (.cells #[.int .i64 0, .int .i64 0] 23)))
  clear hA0 hB0
  go_enter Try.func35, Try.ntmps35
  go_wp2_with fail
  refine (CD.out).mono ?_
  rintro e w2 (⟨hno, ⟨a0, c, rfl⟩, hb⟩ | ⟨m, rfl, hm1, hm6, v, rfl, hL, hb⟩)
  · rw [ch_out hno] at h
    cases h
    have H2 := Go.Lib.hid (And.intro (arr2_call HA.out.1 hb) (HA.out.2.trans (hb.mono HA.out.2.size) : Below W.heap.size W w2))
    have CM := Go.Lib.hid (fun (a : Option Addr) (c : Nat) => meanO_none (.func (.func 82) #[] #[]) a c w2)
    clear hb hno CD
    go_wp2_with fail
    refine (CM.out _ _).mono ?_
    rintro e w5 ⟨rfl, hb5⟩
    have H5 := Go.Lib.hid (And.intro (arr2_call H2.out.1 hb5) (H2.out.2.trans (hb5.mono H2.out.2.size) : Below W.heap.size W w5))
    obtain ⟨m0, m1, e0, e1⟩ := arr2_cells H5.out.1
    obtain ⟨s1, s2, hNN⟩ := arr2_store H5.out.1 (.int .i64 0) (.int .i64 0)
    have HN := Go.Lib.hid (And.intro hNN (arr2_below (Nat.le_refl _) H5.out.2 (.int .i64 0) (.int .i64 0)))
    clear hNN hb5 CM
    go_wp2_with fail
    (try simp only [Exit.inBlock, Exit.then])
    refine bodyPost_ret (arr2_result2 rfl rfl HN.out.1) rfl ?_
    exact ⟨rfl, HN.out.2⟩
  · rw [ch_in (q := fun m => meanL (allO m) tellMeanRuns) rfl hm1 hm6] at h
    cases h
    have H2 := Go.Lib.hid (And.intro hL (And.intro (arr2_call HA.out.1 hb) (HA.out.2.trans (hb.mono HA.out.2.size) : Below W.heap.size W w2)))
    have CM := Go.Lib.hid (meanO_any m (allO m) tellMeanRuns (hbd m hm1 hm6) (allO m).length rfl (all_1k hm1 hm6).1 (all_1k hm1 hm6).2 82 #[] (enters_of Try.func82 (by kernel_rfl) rfl) w2 v H2.out.1.looks (sayMeanRuns m hm1 (by omega) w2))
    obtain ⟨gs, _, g2, _⟩ := hL
    obtain ⟨_, va, vc, rfl, _, _⟩ := Sees.owns g2
    clear g2 hb CD
    obtain ⟨N, hN⟩ : ∃ N, ((allO m).map vals).length = N := ⟨_, rfl⟩
    rw [hN] at H2 CM ⊢
    clear hN
    go_wp2_with fail
    refine (CM.out).mono ?_
    rintro e w5 ⟨rfl, hb5⟩
    have H5 := Go.Lib.hid (And.intro (arr2_call H2.out.2.1 hb5) (H2.out.2.2.trans (hb5.mono H2.out.2.2.size) : Below W.heap.size W w5))
    obtain ⟨x0, hx0⟩ : ∃ x, (meanL (allO m) tellMeanRuns).1 = x := ⟨_, rfl⟩
    obtain ⟨x1, hx1⟩ : ∃ x, (meanL (allO m) tellMeanRuns).2 = x := ⟨_, rfl⟩
    rw [hx0, hx1]
    have HM := Go.Lib.hid (And.intro hx0 hx1)
    obtain ⟨m0, m1, e0, e1⟩ := arr2_cells H5.out.1
    obtain ⟨s1, s2, hNN⟩ := arr2_store H5.out.1 (.int .i64 (x0 : Int)) (.int .i64 (x1 : Int))
    have HN := Go.Lib.hid (And.intro hNN (arr2_below (Nat.le_refl _) H5.out.2 (.int .i64 (x0 : Int)) (.int .i64 (x1 : Int))))
    clear hNN hb5 CM hx0 hx1
    go_wp2_with fail
    (try simp only [Exit.inBlock, Exit.then])
    refine bodyPost_ret (arr2_result2 rfl rfl HN.out.1) rfl ?_
    first | exact ⟨rfl, HN.out.2⟩ | (rw [HM.out.1, HM.out.2]; exact ⟨rfl, HN.out.2⟩)

end Go.Proofs.Ytpkjnlabjmpokaa.ChMeanRunsIC

/-
  Contract: the model's runs. Conditions: an order.
-/
namespace Go.Proofs.Ytpkjnlabjmpokaa.RunSC
open Go.RowKit SeesC IntsC ExactC OrdMath InC OrderC ListsC ListsEC ListsFC LLC RagMarkC RagResC RRC AppendTwoC QueM RRVC PutBC QueIC PassM RunIC SameC StepTwoC

set_option maxRecDepth 100000 in
set_option maxHeartbeats 8000000 in
theorem l5Runs_any (zs : List Int) (hord : Ord zs) (W : World) (v : Value) (n : Nat) (hv : Sees W v n (vals zs)) :
    Calls Try.prog 81 #[v] W fun e w' => LTo W e w' (rTo zs n) := by
  have hl : zs.length = n := by simpa using hv.1
  have hn7 : n ≤ 7 := by have := hord.2.1; omega
  have hn1 : 1 ≤ n := by have := hord.1; omega
  obtain ⟨i0, hi, hz0, hz1, hz2⟩ := info_parts infoI
  obtain ⟨j0, hj, hy0, hy1, hy2⟩ := info_parts ListsFC.infoL
  obtain ⟨b, o, cap2, rfl, _, _, hbl, hcell⟩ := sees_cells hv (by omega)
  have HC := Go.Lib.hid hcell
  have HL := Go.Lib.hid hl
  have hu2 := Try.underlying22
  have HI := Go.Lib.hid (And.intro hi (And.intro hz0 (And.intro hz1 hz2)))
  have hr0 := Go.Lib.hid (rag_made W W.heap.size (Nat.le_refl _))
  have hb0 := Go.Lib.hid ((Below.refl W.heap.size W).alloc (Nat.le_refl _) (.cells #[] 22))
  clear hcell hl hv
  go_enter Try.func81, Try.ntmps81
  go_wp2
  go_loopw [3, 4] (fun qv iv wr => ∃ (i N c : Nat) (a : Option Addr) (R : List (List Int)), i ≤ n ∧ iv = .int .i64 i ∧ qv = .slice a N c ∧ N ≤ 7 ∧ Hid (R = rTo zs i ∧ R.length = N ∧ Rag wr W.heap.size (.slice a N c) R ∧ Below W.heap.size W wr)) (fun _ i _ => n - (intOf i).toNat)
  case atStart => exact ⟨0, 0, _, _, [], Nat.zero_le _, rfl, rfl, by omega, Go.Lib.hid ⟨rfl, rfl, hr0.out, hb0.out⟩⟩
  case round =>
    obtain ⟨i, N, c, a, R, hin, rfl, rfl, hN7, HQ⟩ := hrel
    clear hr0 hb0
    by_cases hlt : i < n
    · have hck : wr.cell? ⟨b, o + i, none⟩ = some (.int .i64 (zs.getD i 0)) := (HQ.out.2.2.2.cell (p := ⟨b, o + i, none⟩) hbl).trans (HC.out i (by have := HL.out; omega))
      obtain ⟨x, hx⟩ : ∃ x, zs.getD i 0 = x := ⟨_, rfl⟩
      rw [hx] at hck
      have HX := Go.Lib.hid hx
      obtain ⟨wo, rfl⟩ : ∃ wo, wo = wr := ⟨_, rfl⟩
      obtain ⟨gs, hgs⟩ := rag_rr HQ.out.2.2.1
      have HG := Go.Lib.hid hgs
      have hok := rTo_ok zs i
      rw [← HQ.out.1] at hok
      have HOK := Go.Lib.hid hok
      have hlti : (i : Int) < (n : Int) := by omega
      clear hx hgs hok
      by_cases h0 : i = 0
      · have hi0 : ((i : Int) == 0) = true := by subst h0; rfl
        have HN := Go.Lib.hid (run_next zs i (k := N) HQ.out.1 (by unfold runAt; rw [if_pos (.inl h0), ← HQ.out.1]; exact HQ.out.2.1) HX.out)
        have HPUT : Hid (putL R N x = (R ++ [[]]).set N ([] ++ [x])) := Go.Lib.hid (by
          unfold putL; rw [if_neg (by have := HQ.out.2.1; omega), ← HQ.out.2.1, List.set_append_right _ _ (Nat.le_refl _)]; simp)
        have HRX : Hid (∀ X, Drawn wo X → RRV W W.heap.size W.heap.size X (.slice a N c) gs R) := Go.Lib.hid (fun X hX => (rrv_own HG.out HQ.out.2.2.2).more (hX.below _))
        have HOX : Hid (∀ X, Drawn wo X → ∀ o1 o2, ((X.alloc o1).alloc o2).ownsRow W.heap.size 22 1 (.slice a N c) N (rowsOf R gs)) := Go.Lib.hid (fun X hX o1 o2 => rr_append (HRX.out X hX).1 HQ.out.2.1 o1 o2)
        have hszW : W.heap.size ≤ wo.heap.size := HQ.out.2.2.2.size
        go_wp2
        go_quiet (fail)
        go_wp2_with (at_builtin; refine wpList_append_two _ rfl _ _ 32 rfl W.heap.size 22 j0 (.slice none 0 0) 1 24 Try.underlying32 hj hy0 hy1 hy2 rfl (by decide) (.slice a N c) N (rowsOf R gs) rfl (HOX.out _ ((Drawn.refl _).next _) _ _) ⟨wo.heap.size + 1, 0, none⟩ 1 1 [.slice (some ⟨wo.heap.size, 0, none⟩) 0 0] rfl rfl (cell_two_new _ _ _ _ _ rfl) (fun x hx => by simp at hx; subst hx; rfl) (by unfold maxLen; omega) (by omega) (by simp; omega) ?_; intro v' w3 hown3 hgrow3 hnew3; obtain ⟨g3, c3, rfl⟩ := ownsRow_succ hown3; have hH3 := rrv_new HQ.out.2.1 (HRX.out _ ((Drawn.refl _).next _)) hszW hown3 hgrow3 hnew3; have H3 : Hid (RRV W W.heap.size W.heap.size w3 (.slice (some ⟨g3, 0, none⟩) (N + 1) c3) (gs ++ [(wo.heap.size, 0)]) (R ++ [[]])) := Go.Lib.hid hH3; clear hown3 hgrow3 hnew3 hH3)
        have HL3 : Hid ((R ++ [[]]).length = N + 1 ∧ (R ++ [[]]).getD N [] = [] ∧ (gs ++ [(wo.heap.size, 0)]).getD N (0, 0) = (wo.heap.size, 0)) := Go.Lib.hid ⟨by simp [HQ.out.2.1], by rw [← HQ.out.2.1, RRC.getD_cat_r], by rw [← HQ.out.2.1, ← HG.out.1, RRC.getD_cat_r]⟩
        have hhd3 := H3.out.1.head HL3.out.1 (show N < N + 1 by omega)
        rw [HL3.out.2.1, HL3.out.2.2] at hhd3
        have hb3 := mid_below H3.out.rag.2 (Nat.le_refl _)
        have hck3 : w3.cell? ⟨b, o + i, none⟩ = some (.int .i64 x) := (hb3.cell (p := ⟨b, o + i, none⟩) hbl).trans ((HC.out i (by have := HL.out; omega)).trans (by rw [HX.out]))
        have hck4 : w3.cell? ⟨b, o, none⟩ = some (.int .i64 x) := by have h := hck3; rw [h0] at h; exact h
        have hgl3 : g3 < w3.heap.size := (own_block_lt H3.out.1.2.1 rfl).2
        have hhdA : ∀ (oo : Obj), (w3.drew.alloc oo).cell? ⟨g3, N, none⟩ = some (.slice (some ⟨wo.heap.size, 0, none⟩) 0 0) := fun oo => (Below.cell ((Below.refl w3.drew.heap.size w3.drew).alloc (Nat.le_refl _) oo) (p := ⟨g3, N, none⟩) hgl3).trans hhd3
        have HRX3 : Hid (∀ X, Drawn w3 X → RRV W W.heap.size W.heap.size X (.slice (some ⟨g3, 0, none⟩) (N + 1) c3) (gs ++ [(wo.heap.size, 0)]) (R ++ [[]])) := Go.Lib.hid (fun X hX => H3.out.more (hX.below _))
        have hrow3 := H3.out.1.2.2.1 N (by rw [HL3.out.1]; omega)
        rw [HL3.out.2.1, HL3.out.2.2] at hrow3
        have HOX3 : Hid (∀ X, Drawn w3 X → X.ownsRow W.heap.size 3 1 (.slice (some ⟨wo.heap.size, 0, none⟩) 0 0) 0 []) := Go.Lib.hid (fun X hX => own_hp hX.heap hrow3)
        have hszW3 : W.heap.size ≤ w3.heap.size := hb3.size
        have hki : (N : Int) < (N : Int) + 1 := by omega
        clear hb3 hrow3 HOX HRX hck
        go_region_law (refine step_append_two _ rfl (.tmp 39) (.tmp 44) 22 rfl W.heap.size 3 i0 (.int .i64 0) 1 8 hu2 HI.out.1 HI.out.2.1 HI.out.2.2.1 HI.out.2.2.2 rfl (by decide) (.slice (some ⟨wo.heap.size, 0, none⟩) 0 0) 0 [] (by simp [Act.eval]) (World.ownsRow.alloc (HOX3.out _ (drawn_drew (Drawn.refl _))) _) ⟨w3.heap.size, 0, none⟩ 1 1 [.int .i64 x] (by simp [Act.eval]) rfl (cell_one_new _ _ _) (fun x hx => by simp at hx; subst hx; rfl) (by unfold maxLen; omega) (by omega) (by simp; omega) ?_; intro v5 w5 hown5 hgrow5 hnew5; obtain ⟨g5, c5, rfl⟩ := ownsRow_succ hown5; obtain ⟨hH5, hc5, hf5⟩ := rrv_app (x := x) (r := []) (m := 0) HL3.out.1 (HRX3.out _ (drawn_drew (Drawn.refl _))) (by omega) HL3.out.2.1 rfl hown5 (by rw [HL3.out.2.2]; exact hgrow5) (by rw [HL3.out.2.2]; exact hnew5); rw [HL3.out.2.2] at hc5; have H5 := Go.Lib.hid hH5; clear hown5 hgrow5 hnew5 hH5)
        all_goals
          have hl7 : N + 1 ≤ 7 := by have := HOK.out.1; have := HQ.out.2.1; omega
          have H6 : Hid (putL R N x = rTo zs (i + 1) ∧ (putL R N x).length = N + 1 ∧ Rag (w5.setCell ⟨g3, N, none⟩ (.slice (some ⟨g5, 0, none⟩) (0 + 1) c5)) W.heap.size (.slice (some ⟨g3, 0, none⟩) (N + 1) c3) (putL R N x) ∧ Below W.heap.size W (w5.setCell ⟨g3, N, none⟩ (.slice (some ⟨g5, 0, none⟩) (0 + 1) c5))) := Go.Lib.hid ⟨HN.out, by rw [HPUT.out, List.length_set]; exact HL3.out.1, by rw [HPUT.out]; exact H5.out.rag.1, mid_below H5.out.rag.2 (Nat.le_refl _)⟩
          clear hc5 hf5
          go_wp2
          go_roundw
          case rel => exact ⟨i + 1, N + 1, c3, _, putL R N x, by omega, by go_num, rfl, hl7, H6⟩
          case measure => simp [intOf]; omega
      · obtain ⟨j, rfl⟩ : ∃ j, i = j + 1 := ⟨i - 1, by omega⟩
        have hi0 : (((j : Int) + 1) == 0) = false := by rw [beq_eq_false_iff_ne]; omega
        have hj0 : 0 ≤ (j : Int) + 1 := by omega
        obtain ⟨y, hy⟩ : ∃ y, zs.getD j 0 = y := ⟨_, rfl⟩
        have hckj : wo.cell? ⟨b, o + j, none⟩ = some (.int .i64 (zs.getD j 0)) := (HQ.out.2.2.2.cell (p := ⟨b, o + j, none⟩) hbl).trans (HC.out j (by have := HL.out; omega))
        rw [hy] at hckj
        have HY := Go.Lib.hid hy
        clear hy
        by_cases hxl : x < y
        · have HN := Go.Lib.hid (run_next zs (j + 1) (k := N) HQ.out.1 (by unfold runAt; rw [if_pos (.inr (by show zs.getD (j + 1) 0 < zs.getD j 0; rw [HX.out, HY.out]; exact hxl)), ← HQ.out.1]; exact HQ.out.2.1) HX.out)
          have hxd : decide (x < y) = true := decide_eq_true hxl
          have HPUT : Hid (putL R N x = (R ++ [[]]).set N ([] ++ [x])) := Go.Lib.hid (by
            unfold putL; rw [if_neg (by have := HQ.out.2.1; omega), ← HQ.out.2.1, List.set_append_right _ _ (Nat.le_refl _)]; simp)
          have HRX : Hid (∀ X, Drawn wo X → RRV W W.heap.size W.heap.size X (.slice a N c) gs R) := Go.Lib.hid (fun X hX => (rrv_own HG.out HQ.out.2.2.2).more (hX.below _))
          have HOX : Hid (∀ X, Drawn wo X → ∀ o1 o2, ((X.alloc o1).alloc o2).ownsRow W.heap.size 22 1 (.slice a N c) N (rowsOf R gs)) := Go.Lib.hid (fun X hX o1 o2 => rr_append (HRX.out X hX).1 HQ.out.2.1 o1 o2)
          have hszW : W.heap.size ≤ wo.heap.size := HQ.out.2.2.2.size
          go_wp2
          go_quiet (fail)
          go_wp2_with (at_builtin; refine wpList_append_two _ rfl _ _ 32 rfl W.heap.size 22 j0 (.slice none 0 0) 1 24 Try.underlying32 hj hy0 hy1 hy2 rfl (by decide) (.slice a N c) N (rowsOf R gs) rfl (HOX.out _ ((Drawn.refl _).next _) _ _) ⟨wo.heap.size + 1, 0, none⟩ 1 1 [.slice (some ⟨wo.heap.size, 0, none⟩) 0 0] rfl rfl (cell_two_new _ _ _ _ _ rfl) (fun x hx => by simp at hx; subst hx; rfl) (by unfold maxLen; omega) (by omega) (by simp; omega) ?_; intro v' w3 hown3 hgrow3 hnew3; obtain ⟨g3, c3, rfl⟩ := ownsRow_succ hown3; have hH3 := rrv_new HQ.out.2.1 (HRX.out _ ((Drawn.refl _).next _)) hszW hown3 hgrow3 hnew3; have H3 : Hid (RRV W W.heap.size W.heap.size w3 (.slice (some ⟨g3, 0, none⟩) (N + 1) c3) (gs ++ [(wo.heap.size, 0)]) (R ++ [[]])) := Go.Lib.hid hH3; clear hown3 hgrow3 hnew3 hH3)
          have HL3 : Hid ((R ++ [[]]).length = N + 1 ∧ (R ++ [[]]).getD N [] = [] ∧ (gs ++ [(wo.heap.size, 0)]).getD N (0, 0) = (wo.heap.size, 0)) := Go.Lib.hid ⟨by simp [HQ.out.2.1], by rw [← HQ.out.2.1, RRC.getD_cat_r], by rw [← HQ.out.2.1, ← HG.out.1, RRC.getD_cat_r]⟩
          have hhd3 := H3.out.1.head HL3.out.1 (show N < N + 1 by omega)
          rw [HL3.out.2.1, HL3.out.2.2] at hhd3
          have hb3 := mid_below H3.out.rag.2 (Nat.le_refl _)
          have hck3 : w3.cell? ⟨b, o + (j + 1), none⟩ = some (.int .i64 x) := (hb3.cell (p := ⟨b, o + (j + 1), none⟩) hbl).trans ((HC.out (j + 1) (by have := HL.out; omega)).trans (by rw [HX.out]))
          have hgl3 : g3 < w3.heap.size := (own_block_lt H3.out.1.2.1 rfl).2
          have hhdA : ∀ (oo : Obj), (w3.drew.alloc oo).cell? ⟨g3, N, none⟩ = some (.slice (some ⟨wo.heap.size, 0, none⟩) 0 0) := fun oo => (Below.cell ((Below.refl w3.drew.heap.size w3.drew).alloc (Nat.le_refl _) oo) (p := ⟨g3, N, none⟩) hgl3).trans hhd3
          have HRX3 : Hid (∀ X, Drawn w3 X → RRV W W.heap.size W.heap.size X (.slice (some ⟨g3, 0, none⟩) (N + 1) c3) (gs ++ [(wo.heap.size, 0)]) (R ++ [[]])) := Go.Lib.hid (fun X hX => H3.out.more (hX.below _))
          have hrow3 := H3.out.1.2.2.1 N (by rw [HL3.out.1]; omega)
          rw [HL3.out.2.1, HL3.out.2.2] at hrow3
          have HOX3 : Hid (∀ X, Drawn w3 X → X.ownsRow W.heap.size 3 1 (.slice (some ⟨wo.heap.size, 0, none⟩) 0 0) 0 []) := Go.Lib.hid (fun X hX => own_hp hX.heap hrow3)
          have hszW3 : W.heap.size ≤ w3.heap.size := hb3.size
          have hki : (N : Int) < (N : Int) + 1 := by omega
          clear hb3 hrow3 HOX HRX hck
          go_region_law (refine step_append_two _ rfl (.tmp 39) (.tmp 44) 22 rfl W.heap.size 3 i0 (.int .i64 0) 1 8 hu2 HI.out.1 HI.out.2.1 HI.out.2.2.1 HI.out.2.2.2 rfl (by decide) (.slice (some ⟨wo.heap.size, 0, none⟩) 0 0) 0 [] (by simp [Act.eval]) (World.ownsRow.alloc (HOX3.out _ (drawn_drew (Drawn.refl _))) _) ⟨w3.heap.size, 0, none⟩ 1 1 [.int .i64 x] (by simp [Act.eval]) rfl (cell_one_new _ _ _) (fun x hx => by simp at hx; subst hx; rfl) (by unfold maxLen; omega) (by omega) (by simp; omega) ?_; intro v5 w5 hown5 hgrow5 hnew5; obtain ⟨g5, c5, rfl⟩ := ownsRow_succ hown5; obtain ⟨hH5, hc5, hf5⟩ := rrv_app (x := x) (r := []) (m := 0) HL3.out.1 (HRX3.out _ (drawn_drew (Drawn.refl _))) (by omega) HL3.out.2.1 rfl hown5 (by rw [HL3.out.2.2]; exact hgrow5) (by rw [HL3.out.2.2]; exact hnew5); rw [HL3.out.2.2] at hc5; have H5 := Go.Lib.hid hH5; clear hown5 hgrow5 hnew5 hH5)
          all_goals
            have hl7 : N + 1 ≤ 7 := by have := HOK.out.1; have := HQ.out.2.1; omega
            have H6 : Hid (putL R N x = rTo zs ((j + 1) + 1) ∧ (putL R N x).length = N + 1 ∧ Rag (w5.setCell ⟨g3, N, none⟩ (.slice (some ⟨g5, 0, none⟩) (0 + 1) c5)) W.heap.size (.slice (some ⟨g3, 0, none⟩) (N + 1) c3) (putL R N x) ∧ Below W.heap.size W (w5.setCell ⟨g3, N, none⟩ (.slice (some ⟨g5, 0, none⟩) (0 + 1) c5))) := Go.Lib.hid ⟨HN.out, by rw [HPUT.out, List.length_set]; exact HL3.out.1, by rw [HPUT.out]; exact H5.out.rag.1, mid_below H5.out.rag.2 (Nat.le_refl _)⟩
            clear hc5 hf5
            go_wp2
            go_roundw
            case rel => exact ⟨(j + 1) + 1, N + 1, c3, _, putL R N x, by omega, by go_num, rfl, hl7, H6⟩
            case measure => simp [intOf]; omega
        · have HN := Go.Lib.hid (run_next zs (j + 1) (k := N - 1) HQ.out.1 (by unfold runAt; rw [if_neg (by show ¬ (j + 1 = 0 ∨ zs.getD (j + 1) 0 < zs.getD j 0); rw [HX.out, HY.out]; omega), ← HQ.out.1]; have := HQ.out.2.1; omega) HX.out)
          have HPOS : Hid (1 ≤ N) := Go.Lib.hid (by have h1 := HOK.out.2.2.2 (by omega); have := HQ.out.2.1; omega)
          have hxd : decide (x < y) = false := decide_eq_false hxl
          obtain ⟨k, rfl⟩ : ∃ k, N = k + 1 := ⟨N - 1, by have := HPOS.out; omega⟩
          obtain ⟨m, hm⟩ : ∃ m, (R.getD k []).length = m := ⟨_, rfl⟩
          have hm7 : m ≤ 7 := by
            have h1 := tot_row (L := R) (i := k) (by have := HQ.out.2.1; omega)
            have h2 := HOK.out.2.1
            omega
          obtain ⟨p, hp⟩ : ∃ p, gs.getD k (0, 0) = p := ⟨_, rfl⟩
          obtain ⟨g, c', hgc⟩ := rr_slice HG.out HQ.out.2.1 (by omega)
          cases hgc
          have hhd := HG.out.head HQ.out.2.1 (show k < k + 1 by omega)
          have hrow := HG.out.2.2.1 k (by have := HQ.out.2.1; omega)
          rw [hp, hm] at hhd
          rw [hp, hm] at hrow
          unfold sl at hrow
          have HP := Go.Lib.hid (And.intro hp hm)
          obtain ⟨p1, p2⟩ := p
          simp only at hhd
          have HO := Go.Lib.hid hrow
          have hkli : (k : Int) < (k : Int) + 1 := by omega
          clear hp hm hrow
          have HRX : Hid (∀ X, Drawn wo X → RRV W W.heap.size W.heap.size X (.slice (some ⟨g, 0, none⟩) (k + 1) c) gs R) := Go.Lib.hid (fun X hX => (rrv_own HG.out HQ.out.2.2.2).more (hX.below _))
          have HOX : Hid (∀ X, Drawn wo X → X.ownsRow W.heap.size 3 1 (.slice (some ⟨p1, 0, none⟩) m p2) m (vals (R.getD k []))) := Go.Lib.hid (fun X hX => own_hp hX.heap HO.out)
          have hszW : W.heap.size ≤ wo.heap.size := HQ.out.2.2.2.size
          have hgl : g < wo.heap.size := (own_block_lt HG.out.2.1 rfl).2
          have hhdA : ∀ (nn : Nat) (oo : Obj), ((wo.drewN nn).alloc oo).cell? ⟨g, k, none⟩ = some (.slice (some ⟨p1, 0, none⟩) m p2) := fun nn oo => (Below.cell ((Below.refl (wo.drewN nn).heap.size (wo.drewN nn)).alloc (Nat.le_refl _) oo) (p := ⟨g, k, none⟩) hgl).trans hhd
          have HPUT : Hid (putL R k x = R.set k (R.getD k [] ++ [x])) := Go.Lib.hid (by unfold putL; rw [if_pos (by have := HQ.out.2.1; omega)])
          go_wp2
          go_quiet (fail)
          go_wp2_with fail
          go_region_law (refine step_append_two _ rfl (.tmp 39) (.tmp 44) 22 rfl W.heap.size 3 i0 (.int .i64 0) 1 8 hu2 HI.out.1 HI.out.2.1 HI.out.2.2.1 HI.out.2.2.2 rfl (by decide) (.slice (some ⟨p1, 0, none⟩) m p2) m (vals (R.getD k [])) (by simp [Act.eval]) (World.ownsRow.alloc (HOX.out _ (drawn_drew ((Drawn.refl _).next _))) _) ⟨wo.heap.size, 0, none⟩ 1 1 [.int .i64 x] (by simp [Act.eval]) rfl (cell_one_new _ _ _) (fun x hx => by simp at hx; subst hx; rfl) (by unfold maxLen; omega) (by omega) (by simp; omega) ?_; intro v5 w5 hown5 hgrow5 hnew5; obtain ⟨g5, c5, rfl⟩ := ownsRow_succ hown5; obtain ⟨hH5, hc5, hf5⟩ := rrv_app (x := x) HQ.out.2.1 (HRX.out _ (drawn_drew ((Drawn.refl _).next _))) (show k < k + 1 by omega) rfl HP.out.2 hown5 (by rw [HP.out.1]; exact hgrow5) (by rw [HP.out.1]; exact hnew5); rw [HP.out.1] at hc5; have H5 := Go.Lib.hid hH5; clear hown5 hgrow5 hnew5 hH5)
          all_goals
            have H6 : Hid (putL R k x = rTo zs ((j + 1) + 1) ∧ (putL R k x).length = k + 1 ∧ Rag (w5.setCell ⟨g, k, none⟩ (.slice (some ⟨g5, 0, none⟩) (m + 1) c5)) W.heap.size (.slice (some ⟨g, 0, none⟩) (k + 1) c) (putL R k x) ∧ Below W.heap.size W (w5.setCell ⟨g, k, none⟩ (.slice (some ⟨g5, 0, none⟩) (m + 1) c5))) := Go.Lib.hid ⟨HN.out, by rw [HPUT.out, List.length_set]; exact HQ.out.2.1, by rw [HPUT.out]; exact H5.out.rag.1, mid_below H5.out.rag.2 (Nat.le_refl _)⟩
            clear hc5 hf5
            go_wp2
            go_roundw
            case rel => exact ⟨(j + 1) + 1, k + 1, c, _, putL R k x, by omega, by go_num, rfl, hN7, H6⟩
            case measure => simp [intOf]; omega
    · have hie : i = n := by omega
      subst hie
      have HF := Go.Lib.hid (lto_of HQ.out.2.2.1 HQ.out.2.2.2 HQ.out.2.1 HQ.out.1)
      go_wp2
      go_ret
      exact HF.out

end Go.Proofs.Ytpkjnlabjmpokaa.RunSC

/-
  Contract: MeanRuns of the model. Conditions: none.
-/
namespace Go.Proofs.Ytpkjnlabjmpokaa.ChMeanRunsSC
open Go.RowKit SeesC IntsC ExactC OrdMath AllO ListsC ListsEC Arr2C ChM ChQ CutFC L9C OrdsSpC ChMeanRunsIC QueM RunSC RagResC
set_option linter.unusedVariables false

set_option maxRecDepth 100000 in
set_option maxHeartbeats 4000000 in
theorem specMeanRuns (hbd : ∀ m, 1 ≤ m → m ≤ 6 → ∀ zs ∈ allO m, tellMeanRuns zs ≤ 1000) (n : Int) (a b : Nat) (ok : Bool) (h : chAns n (fun m => meanL (allO m) tellMeanRuns) = (a, b, ok)) (hw : (Lit.int .i64 n).wf = true) (W : World) :
    Calls Try.prog 34 #[.int .i64 n] W fun e w' => FracTo W e w' a b ok := by
  have hA0 := arr2_alloc W (.int .i64 0) (.int .i64 0)
  have hB0 : Below W.heap.size W (W.alloc (.cells #[.int .i64 0, .int .i64 0] 23)) := (Below.refl _ W).alloc (Nat.le_refl _) _
  have HA := Go.Lib.hid (And.intro hA0 hB0)
  clear hA0 hB0
  obtain ⟨r, hr⟩ : ∃ r, decide (1 ≤ n ∧ n ≤ 6) = r := ⟨_, rfl⟩
  have CZ := Go.Lib.hid (fun (X : World) => l9Size_any n X r hr)
  have HR := Go.Lib.hid hr
  clear hr
  obtain ⟨W1, hW1⟩ : ∃ W1, W.alloc (.cells #[.int .i64 0, .int .i64 0] 23) = W1 := ⟨_, rfl⟩
  cases r with
  | false =>
    rw [ch_out (of_decide_eq_false HR.out)] at h
    cases h
    go_enter Try.func34, Try.ntmps34
    go_wp2_with fail
    rw [hW1] at HA
    refine (CZ.out _).mono ?_
    rintro e _ ⟨rfl, rfl⟩
    obtain ⟨m0, m1, e0, e1⟩ := arr2_cells HA.out.1
    obtain ⟨s1, s2, hNN⟩ := arr2_store HA.out.1 (.int .i64 0) (.int .i64 0)
    have HN := Go.Lib.hid (And.intro hNN (arr2_below (Nat.le_refl _) HA.out.2 (.int .i64 0) (.int .i64 0)))
    clear hNN
    go_wp2_with fail
    (try simp only [Exit.inBlock, Exit.then])
    refine bodyPost_ret (arr2_result2 rfl rfl HN.out.1) rfl ?_
    exact ⟨rfl, HN.out.2⟩
  | true =>
    have h16 := of_decide_eq_true HR.out
    obtain ⟨m, rfl⟩ : ∃ m : Nat, n = (m : Int) := ⟨n.toNat, by omega⟩
    have hm1 : 1 ≤ m := by omega
    have hm6 : m ≤ 6 := by omega
    have hm7 : m ≤ 7 := by omega
    rw [ch_in (q := fun m => meanL (allO m) tellMeanRuns) rfl hm1 hm6] at h
    have HH := Go.Lib.hid h
    have CO := Go.Lib.hid (fun (X : World) => l2Orders_any m hm1 hm7 X)
    obtain ⟨F, hF⟩ : ∃ F, (allO m).length = F := ⟨_, rfl⟩
    have hFF := all_1k hm1 hm6
    rw [hF] at hFF
    have hF1 := hFF.1
    have hF5 := hFF.2
    have HF := Go.Lib.hid hF
    clear hF hFF h h16 HR
    go_enter Try.func34, Try.ntmps34
    go_wp2_with fail
    rw [hW1] at HA
    refine (CZ.out _).mono ?_
    rintro e _ ⟨rfl, rfl⟩
    go_wp2_with fail
    refine (CO.out _).mono ?_
    rintro e w2 ⟨v2, rfl, hl2, hb2⟩
    obtain ⟨gs, hg, hog, hin, _, _⟩ := hl2
    rw [List.length_map, HF.out] at hg hog hin
    obtain ⟨g, c, rfl⟩ := own_pos hog (by omega)
    have H2 := Go.Lib.hid (And.intro hg (And.intro hog (And.intro hin (And.intro (arr2_call HA.out.1 hb2) (HA.out.2.trans (hb2.mono HA.out.2.size) : Below W.heap.size W w2)))))
    clear hg hog hin hb2 CO CZ hW1
    go_wp2_with fail
    go_loopw [4, 6] (fun mv iv wr => ∃ (i t : Nat), i ≤ F ∧ iv = .int .i64 i ∧ mv = .int .i64 t ∧ Hid (t = sumT tellMeanRuns ((allO m).take i) ∧ Below w2.heap.size w2 wr)) (fun _ i _ => F - (intOf i).toNat)
    case atStart => exact ⟨0, 0, Nat.zero_le _, rfl, rfl, Go.Lib.hid ⟨rfl, Below.refl _ _⟩⟩
    case round =>
      obtain ⟨i, t, hiF, rfl, rfl, HX⟩ := hrel
      have hle := sumT_le (tell := tellMeanRuns) (b := 1000) (L := (allO m).take i) (fun x hx => (hbd m hm1 hm6) x (List.mem_of_mem_take hx))
      rw [List.length_take, HF.out, Nat.min_eq_left hiF, ← HX.out.1] at hle
      by_cases hlt : i < F
      · obtain ⟨p, hp⟩ : ∃ p, gs.getD i (0, 0) = p := ⟨_, rfl⟩
        have hiL : i < (allO m).length := by rw [HF.out]; exact hlt
        obtain ⟨zs, hzi⟩ : ∃ zs, (allO m)[i]? = some zs := ⟨_, List.getElem?_eq_getElem hiL⟩
        have hmem : zs ∈ allO m := List.mem_of_getElem? hzi
        have hord := (mem_allO hm1 hm7).1 hmem
        have hrow := H2.out.2.2.1 i hlt
        have hgd : ((allO m).map vals).getD i [] = vals zs := by simp [hzi]
        rw [hp, hgd] at hrow
        have hck : w2.cell? ⟨g, i, none⟩ = some (.slice (some ⟨p.1, 0, none⟩) m p.2) := by
          rw [H2.out.2.1.cellAt i (by omega), ← hp]
          simp [show i < gs.length by have := H2.out.1; omega, sl]
        have hgl := (H2.out.2.1.lt g rfl).2
        have hckr := (HX.out.2.cell (p := ⟨g, i, none⟩) hgl).trans hck
        obtain ⟨p1, p2⟩ := p
        unfold sl at hrow
        simp only at hckr hrow
        have hsee := Sees.owns (kept_call hrow HX.out.2)
        have CQ := Go.Lib.hid (l5Runs_any zs hord.1 wr _ m hsee)
        obtain ⟨R, hR⟩ : ∃ R, tellMeanRuns zs = R := ⟨_, rfl⟩
        have HN : Hid (sumT tellMeanRuns ((allO m).take (i + 1)) = t + R) := Go.Lib.hid (by rw [sumT_take hzi, HX.out.1, hR])
        have HRR := Go.Lib.hid (And.intro hR hord)
        have hlti : (i : Int) < (F : Int) := by omega
        have hR1 : R ≤ 1000 := by rw [← hR]; exact hbd m hm1 hm6 zs hmem
        clear hp hzi hmem hord hrow hgd hck hgl hsee hiL
        go_wp2_with fail
        refine (CQ.out).mono ?_
        rintro e w4 ⟨a4, c4, rfl, _, hb4⟩
        rw [show (rTo zs m).length = R from by rw [← HRR.out.2.2]; exact HRR.out.1]
        have HB4 := Go.Lib.hid (HX.out.2.trans (hb4.mono HX.out.2.size))
        clear hb4 CQ
        go_wp2
        go_roundw
        case rel => exact ⟨i + 1, t + R, by omega, by go_num, by go_num, Go.Lib.hid ⟨HN.out.symm, HB4.out⟩⟩
        case measure => simp [intOf]; omega
      · obtain rfl : i = F := by omega
        have hall : t = sumT tellMeanRuns (allO m) := by rw [HX.out.1, ← HF.out, sumT_all]
        have CL := Go.Lib.hid (fun (X : World) => l9Cut_any t i (by omega) hF1 (by omega) X)
        obtain ⟨x0, hx0⟩ : ∃ x, (cutF t i).1 = x := ⟨_, rfl⟩
        obtain ⟨x1, hx1⟩ : ∃ x, (cutF t i).2 = x := ⟨_, rfl⟩
        have HM : Hid (x0 = a ∧ x1 = b ∧ true = ok) := Go.Lib.hid (by
          have h := HH.out
          unfold meanL at h
          rw [← hall, HF.out, hx0, hx1] at h
          cases h
          exact ⟨rfl, rfl, rfl⟩)
        rw [hx0, hx1] at CL
        have HXA := Go.Lib.hid (And.intro (arr2_call H2.out.2.2.2.1 HX.out.2) (H2.out.2.2.2.2.trans (HX.out.2.mono H2.out.2.2.2.2.size) : Below W.heap.size W wr))
        clear hx0 hx1 hall hle
        go_wp2_with fail
        refine (CL.out _).mono ?_
        rintro e w5 ⟨rfl, hb5⟩
        have H5 := Go.Lib.hid (And.intro (arr2_call HXA.out.1 hb5) (HXA.out.2.trans (hb5.mono HXA.out.2.size) : Below W.heap.size W w5))
        obtain ⟨m0, m1, e0, e1⟩ := arr2_cells H5.out.1
        obtain ⟨s1, s2, hNN⟩ := arr2_store H5.out.1 (.int .i64 (x0 : Int)) (.int .i64 (x1 : Int))
        have HN := Go.Lib.hid (And.intro hNN (arr2_below (Nat.le_refl _) H5.out.2 (.int .i64 (x0 : Int)) (.int .i64 (x1 : Int))))
        clear hNN hb5 CL
        go_wp2_with fail
        (try simp only [Exit.inBlock, Exit.then])
        refine bodyPost_ret (arr2_result2 rfl rfl HN.out.1) rfl ?_
        rw [← HM.out.1, ← HM.out.2.1, ← HM.out.2.2]
        exact ⟨rfl, HN.out.2⟩

end Go.Proofs.Ytpkjnlabjmpokaa.ChMeanRunsSC

namespace Go.Proofs.Ytpkjnlabjmpokaa.fnExactMeanRuns
open Go.ChangeShapes Go.WideShapes Go.ChangeAt Go.RowKit SeesC OpenC
open Go.ChangeMaps (open_string shut_string)
open IntsC ExactC OrdMath AllO ChM ChQ Arr2C EqA2LC ChMeanRunsIC ChMeanRunsSC
set_option linter.unusedVariables false

theorem own : ownKnob Try.prog.godebug = none := by kernel_rfl
theorem laidOut : laidOutB Try.prog = true := by kernel_rfl

/-! ### The walk -/
set_option maxRecDepth 100000 in
set_option maxHeartbeats 4000000 in
theorem walk (a0 : Int) (w : World) (w0 : (Lit.int .i64 a0).wf = true) :
    Calls Try.prog 9 #[.int .i64 a0] w fun e w' => e = .returned (.bool true) ∧ Below w.heap.size w w' := by
  have bels : Hid (Below w.heap.size w w) := Go.Lib.hid (Below.refl _ _)
  obtain ⟨⟨x, y, b⟩, hans⟩ : ∃ p, chAns a0 (fun m => meanL (allO m) tellMeanRuns) = p := ⟨_, rfl⟩
  have C1 := Go.Lib.hid (fun (X : World) => specMeanRuns (fun m h1 h6 zs hz => BdMeanRuns.bound h1 h6 hz) a0 x y b hans w0 X)
  have C2 := Go.Lib.hid (fun (X : World) => implMeanRuns (fun m h1 h6 zs hz => BdMeanRuns.bound h1 h6 hz) a0 x y b hans w0 X)
  clear hans
  go_enter Try.func9, Try.ntmps9
  go_wp2_with fail
  refine (C1.out _).mono ?_
  rintro e W2 ⟨rfl, b2⟩
  have hA := arr2_alloc W2 (.int .i64 (x : Int)) (.int .i64 (y : Int))
  have hB := b2.alloc b2.size (.cells #[.int .i64 (x : Int), .int .i64 (y : Int)] 23)
  have hgle : w.heap.size ≤ W2.heap.size := b2.size
  clear b2
  go_wp2_with fail
  obtain ⟨V2, hV2⟩ : ∃ V, W2.alloc (.cells #[.int .i64 (x : Int), .int .i64 (y : Int)] 23) = V := ⟨_, rfl⟩
  rw [hV2] at hA hB ⊢
  obtain ⟨g2, hg2⟩ : ∃ g, W2.heap.size = g := ⟨_, rfl⟩
  rw [hg2] at hA hgle ⊢
  have HV2 := Go.Lib.hid (And.intro hB hA)
  clear hA hB hV2 hg2
  refine (C2.out _).mono ?_
  rintro e W4 ⟨rfl, b4⟩
  have HX4 := Go.Lib.hid (And.intro (HV2.out.1.trans (b4.mono HV2.out.1.size)) (arr2_call HV2.out.2 b4))
  clear b4
  have hA := arr2_call HX4.out.2 ((Below.refl W4.heap.size W4).alloc (Nat.le_refl _) (.cells #[.int .i64 (x : Int), .int .i64 (y : Int)] 23))
  obtain ⟨k0, k1, _, _⟩ := arr2_cells hA
  have HX5 := Go.Lib.hid ((HX4.out.1).alloc HX4.out.1.size (.cells #[.int .i64 (x : Int), .int .i64 (y : Int)] 23))
  clear hA
  go_wp2_with fail
  refine (eqIntA2_same _ (x : Int) (y : Int)).mono ?_
  rintro e W6 ⟨rfl, b6⟩
  have HX6 := Go.Lib.hid (HX5.out.trans (b6.mono HX5.out.size))
  clear b6 k0 k1
  go_wp2_with fail
  go_ret
  exact ⟨rfl, HX6.out⟩

/-! ### From the walk to the row -/
set_option maxRecDepth 100000 in
theorem lifted (os : Os) (started : os.Started) (H : Type) (enc : TypeId × Value → H) :
    ReturnsInHanded {} Try.checked os 9 .any (Rows.fnExactMeanRunsSpec.pre6 enc Try.prog Try.f9 Rows.fnExactMeanRunsRow.domain false) (Rows.fnExactMeanRunsSpec.post enc Try.prog Try.f9 false true false false) := by
  refine returnsInHanded_of_change (C := Try.checked) own started (by kernel_rfl) Try.func9
    (ChangeSpec.witness6 (enc := enc) (C := Try.checked) false ⟨#[], #[.int .i64 0], []⟩ 8 (by kernel_rfl) (by kernel_rfl) (by kernel_rfl) (by kernel_rfl)) ?_
  intro W base args ds gs before hval0 hW hcnd _
  have hval : ∀ (j : Nat) t v, Try.f9.params[j]? = some t → args[j]? = some v → Value.okWide Try.prog W .any base t v := hval0
  have hW' := hW
  obtain ⟨p, q, hA0, hV, rfl, hfz, hnd⟩ := hW
  have hA : DataW.TrodAll enc Try.prog W 0 (fun _ => true) true Try.f9.params.toList args.toList ds p := hA0
  rw [Try.params9] at hA hval
  obtain ⟨u0, vs0, d0, ds0, p0, q0, hargs, rfl, rfl, h0, r0⟩ := trodAll_cons hA
  obtain ⟨rfl, rfl, rfl⟩ := trodAll_nil r0
  obtain rfl : args = #[u0] := by cases args; simp_all
  obtain ⟨rfl, rfl⟩ := trodVars_none hV
  obtain ⟨a0, rfl, rfl, rfl, w0⟩ := open_int Try.underlying3 (hval 0 3 u0 rfl rfl) h0
  clear hA0 hval0
  refine (walk a0 W w0).mono fun e W' ⟨he, bel⟩ => ?_
  subst he
  exact ⟨_, rfl, _, _, _, [], _, [], hW', trodAll_mk1 (shut_bool Try.underlying4 _), (trodAll_cons_mk (shut_int Try.underlying3 w0) trodAll_mk0), rfl, bel.frame _, fun h => by cases h⟩

theorem over : Rows.fnExactMeanRunsRow.holds Try.pinned (OpenSpec.ofChange Rows.fnExactMeanRunsSpec) :=
  OpenClaim.holds_of_wide 9 Try.f9 rfl rfl rfl rfl rfl rfl rfl ⟨rfl, rfl, rfl, rfl, rfl⟩ rfl rfl rfl rfl rfl (by kernel_rfl) Try.func9
    (show joinedFacts Try.prog 9 Try.f9 Rows.fnExactMeanRunsSpec Rows.fnExactMeanRunsRow = true by unfold joinedFacts; rw [SeatC.may, SeatC.lif, SeatC.mke]; kernel_rfl)
    (of_decide_eq_true (by kernel_rfl)) (by unfold Func.isWrapper; first | (rw [if_pos (by decide +kernel)]; kernel_rfl) | (rw [if_neg (by decide +kernel)]; exact ⟨rfl, rfl⟩))
    (fun os started H enc _ => lifted os started H enc)

/-- The statement. -/
theorem proved : Rows.FnExactMeanRunsSaid :=
  over
#print axioms proved
end Go.Proofs.Ytpkjnlabjmpokaa.fnExactMeanRuns
