/-
  Contracts: the program's stack that is open at both ends: what is at its ends, a pop, a push. Conditions: at most 7 pushes.
-/
import Derived.Test.YtpkjnlabjmpokabDoorPx2
import Derived.Deep.Cut
import Derived.WalkLawsBesides
import Derived.BigQuiet
import Derived.IntWalk
import Derived.Laws.ResultCell
import Derived.Laws.Rows
import Derived.Laws.CopyOwn
import Derived.Test.YtpkjnlabjmpokabDoorPx3
import Derived.Test.YtpkjnlabjmpokabDoorPx25
import Derived.WalkMore
import Derived.StillTailTactics
import Derived.Maps.AppendAt

namespace Go.Proofs.YtpkjnlabjmpokabDoor.OpSC
open Go.RowKit SeesC IntsC ExactC NumC IterC OrdMath WordMath InC OrderC WordC RunC ToC EndM BigC
set_option linter.unusedVariables false

theorem own_apart {w : World} {B B' s s' n n' : Nat} {ty ty' : TypeId} {v v' : Value} {xs xs' : List Value} (h : w.ownsRow B ty s v n xs) (h' : w.ownsRow B' ty' s' v' n' xs') (hne : ty ≠ ty') {q : Nat} (e : v.ownBlock = some q) (e' : v'.ownBlock = some q) : False := by
  rcases h.2 with ⟨rfl, _⟩ | ⟨g, cap, cur, rfl, _, hg, _⟩
  · simp [Value.ownBlock] at e
  · rcases h'.2 with ⟨rfl, _⟩ | ⟨g', cap', cur', rfl, _, hg', _⟩
    · simp [Value.ownBlock] at e'
    · simp [Value.ownBlock] at e e'
      subst e
      subst e'
      rw [hg] at hg'
      cases hg'
      exact hne rfl

/-- The struct's cells: the numbers, the bottom, the top. -/
def cellsO (F : List Int) (bo tp : Nat) : List Value := vals F ++ [.int .i64 (bo : Int), .int .i64 (tp : Int)]

/-- A block holds the struct; the numbers of d are there; x have been pushed. -/
def OpenAt (B a : Nat) (d : List Int) (x : Nat) (w : World) : Prop := ∃ (F : List Int) (bo tp : Nat),
  F.length = 7 ∧ bo + d.length = tp ∧ tp ≤ x ∧ (∀ j, j < d.length → F.getD (bo + j) 0 = d.getD j 0) ∧
  w.ownsRow B 65 9 (.slice (some ⟨a, 0, none⟩) 1 1) 1 (cellsO F bo tp)

theorem co_len {F : List Int} {bo tp : Nat} (hF : F.length = 7) : (cellsO F bo tp).length = 9 := by unfold cellsO; simp [hF]
theorem co_num {F : List Int} {bo tp : Nat} (hF : F.length = 7) {j : Nat} (hj : j < 7) : (cellsO F bo tp)[j]? = some (.int .i64 (F.getD j 0)) := by
  unfold cellsO
  rw [List.getElem?_append_left (by simp; omega)]
  simp [hF, hj]
theorem co_bo {F : List Int} {bo tp : Nat} (hF : F.length = 7) : (cellsO F bo tp)[7]? = some (.int .i64 (bo : Int)) := by
  unfold cellsO
  rw [List.getElem?_append_right (by simp; omega)]
  simp [hF]
theorem co_tp {F : List Int} {bo tp : Nat} (hF : F.length = 7) : (cellsO F bo tp)[8]? = some (.int .i64 (tp : Int)) := by
  unfold cellsO
  rw [List.getElem?_append_right (by simp; omega)]
  simp [hF]
theorem co_set_num {F : List Int} {bo tp : Nat} (hF : F.length = 7) {j : Nat} (hj : j < 7) (x : Int) : (cellsO F bo tp).set j (.int .i64 x) = cellsO (F.set j x) bo tp := by
  unfold cellsO
  rw [List.set_append_left _ _ (by simp; omega)]
  simp
theorem co_set_bo {F : List Int} {bo tp : Nat} (hF : F.length = 7) (x : Nat) : (cellsO F bo tp).set 7 (.int .i64 (x : Int)) = cellsO F x tp := by
  unfold cellsO
  rw [List.set_append_right _ _ (by simp; omega)]
  simp [hF]
theorem co_set_tp {F : List Int} {bo tp : Nat} (hF : F.length = 7) (x : Nat) : (cellsO F bo tp).set 8 (.int .i64 (x : Int)) = cellsO F bo x := by
  unfold cellsO
  rw [List.set_append_right _ _ (by simp; omega)]
  simp [hF]

section
variable {B a : Nat} {C : List Value} {w : World}
theorem oc_cell (h : w.ownsRow B 65 9 (.slice (some ⟨a, 0, none⟩) 1 1) 1 C) {j : Nat} {u : Value} (hj : C[j]? = some u) : w.cell? ⟨a, j, none⟩ = some u := by
  have h1 : j < 1 * 9 := by
    have := (List.getElem?_eq_some_iff.1 hj).1
    have h2 := h.1
    omega
  rw [World.ownsRow.cellAt h j h1, hj]
theorem oc_drewN {q : Nat} (h : w.ownsRow B 65 9 (.slice (some ⟨a, 0, none⟩) 1 1) 1 C) : (w.drewN q).ownsRow B 65 9 (.slice (some ⟨a, 0, none⟩) 1 1) 1 C := h
theorem oc_call {w' : World} (h : w.ownsRow B 65 9 (.slice (some ⟨a, 0, none⟩) 1 1) 1 C) (hb : Below w.heap.size w w') : w'.ownsRow B 65 9 (.slice (some ⟨a, 0, none⟩) 1 1) 1 C :=
  h.kept (grown_of_below hb none) (by simp [Value.ownBlock])
end

theorem OpenAt.call {B a : Nat} {d : List Int} {x : Nat} {w w' : World} (h : OpenAt B a d x w) (hb : Below w.heap.size w w') : OpenAt B a d x w' := by
  obtain ⟨F, bo, tp, h1, h2, h3, h4, h5⟩ := h
  exact ⟨F, bo, tp, h1, h2, h3, h4, oc_call h5 hb⟩
theorem OpenAt.mark {B a : Nat} {d : List Int} {x : Nat} {w w' : World} {row : Option Nat} (h : OpenAt B a d x w) (hg : w.grownBy w' row) (hne : row ≠ some a) : OpenAt B a d x w' := by
  obtain ⟨F, bo, tp, h1, h2, h3, h4, h5⟩ := h
  exact ⟨F, bo, tp, h1, h2, h3, h4, h5.kept hg (.inr (by simpa [Value.ownBlock] using fun e => hne e.symm))⟩
theorem OpenAt.ge {B a : Nat} {d : List Int} {x : Nat} {w : World} (h : OpenAt B a d x w) : B ≤ a ∧ a < w.heap.size := by
  obtain ⟨F, bo, tp, h1, h2, h3, h4, h5⟩ := h
  exact h5.lt a rfl
theorem OpenAt.apart {B a : Nat} {d : List Int} {x : Nat} {w : World} (h : OpenAt B a d x w) {B' s' n' : Nat} {ty' : TypeId} {v' : Value} {xs' : List Value} (h' : w.ownsRow B' ty' s' v' n' xs') (hne : 65 ≠ ty') : v'.ownBlock ≠ some a := by
  obtain ⟨F, bo, tp, h1, h2, h3, h4, h5⟩ := h
  exact fun e => own_apart h5 h' hne (q := a) rfl e
theorem OpenAt.len {B a : Nat} {d : List Int} {x : Nat} {w : World} (h : OpenAt B a d x w) : d.length ≤ x := by
  obtain ⟨F, bo, tp, h1, h2, h3, h4, h5⟩ := h
  omega

def zcellsO : List Value := cellsO (List.replicate 7 0) 0 0
theorem infoO : (Tryd.prog.info? 65).map (fun i => (i.zero, i.size)) = some (some (.agg zcellsO.toArray), 9) := by kernel_rfl
theorem builtO : Tryd.prog.built 65 [] = some zcellsO.toArray := by kernel_rfl
theorem sizeO : (Tryd.prog.info? 65).map (·.size) = some zcellsO.toArray.size := by kernel_rfl
theorem oneO : zcellsO.toArray.all (·.oneCell') = true := by kernel_rfl
theorem open0 (B : Nat) (w : World) (hB : B ≤ w.heap.size) : OpenAt B w.heap.size [] 0 (w.alloc (.cells zcellsO.toArray 65)) :=
  ⟨List.replicate 7 0, 0, 0, rfl, rfl, Nat.le_refl _, fun j hj => by simp at hj, World.ownsRow_lit w _ 1 hB (by unfold maxLen; omega) rfl⟩

theorem infoA : (Tryd.prog.info? 69).map (fun i => (i.zero, i.size)) = some (some (.agg #[.int .i64 0, .int .i64 0]), 2) := by kernel_rfl
theorem builtA : Tryd.prog.built 69 [] = some #[.int .i64 0, .int .i64 0] := by kernel_rfl
theorem sizeA (x y : Value) : (Tryd.prog.info? 69).map (·.size) = some (#[x, y] : Array Value).size := by kernel_rfl

/-- Two cells of the call's own. -/
def Arr2 (w : World) (B g : Nat) (x y : Value) : Prop := w.ownsRow B 69 1 (.slice (some ⟨g, 0, none⟩) 2 2) 2 [x, y]

theorem arr2_cells {w : World} {B g : Nat} {x y : Value} (h : Arr2 w B g x y) : w.cell? ⟨g, 0, none⟩ = some x ∧ w.cell? ⟨g, 1, none⟩ = some y ∧ w.frozen? ⟨g, 0, none⟩ = false ∧ w.frozen? ⟨g, 1, none⟩ = false :=
  ⟨h.cellAt 0 (by omega), h.cellAt 1 (by omega), h.frozenAt 0, h.frozenAt 1⟩

theorem arr2_alloc (w : World) (x y : Value) : Arr2 (w.alloc (.cells #[x, y] 69)) w.heap.size w.heap.size x y :=
  block_own (ex := []) (by show (w.heap.push _)[w.heap.size]? = _; rw [Array.getElem?_push_size]; rfl) rfl rfl (Nat.le_refl _) (by unfold maxLen; omega)

/-- Two stores. -/
theorem arr2_store {w : World} {B g : Nat} {x y : Value} (h : Arr2 w B g x y) (a b : Value) :
    (w.setCell ⟨g, 0, none⟩ a).cell? ⟨g, 1, none⟩ = some y ∧ (w.setCell ⟨g, 0, none⟩ a).frozen? ⟨g, 1, none⟩ = false ∧
    Arr2 ((w.setCell ⟨g, 0, none⟩ a).setCell ⟨g, 1, none⟩ b) B g a b := by
  have h0 := (h.stored 0 a).1
  have h1 := (h0.stored 1 b).1
  exact ⟨h0.cellAt 1 (by omega), h0.frozenAt 1, h1⟩

theorem arr2_below {w W : World} {B g : Nat} (hg : B ≤ g) (h : Below B W w) (a b : Value) : Below B W ((w.setCell ⟨g, 0, none⟩ a).setCell ⟨g, 1, none⟩ b) :=
  (h.setCell (p := ⟨g, 0, none⟩) hg a).setCell (p := ⟨g, 1, none⟩) hg b

theorem arr2_heap {w : World} {B g : Nat} {x y : Value} (h : Arr2 w B g x y) : w.heap[g]? = some (.cells #[x, y] 69 (0, 0)) := by
  obtain ⟨ex, h1, h2, _⟩ := own_block h
  have : ex = [] := List.eq_nil_of_length_eq_zero (by omega)
  subst this
  exact h1

theorem arr2_result {fn : Func} {p : Tmp} (h : fn.results = #[.cell p 69]) {tmps : Array Value} {w : World} {B g : Nat} {x y : Value} (hp : tmps.getD p undef = .pointer (some ⟨g, 0, none⟩)) (hA : Arr2 w B g x y) :
    (results fn tmps).run Tryd.prog w = .ok (.agg #[x, y]) w :=
  results_cell_row h tmps w g 69 #[x, y] (0, 0) _ hp (arr2_heap hA) Tryd.underlying69 rfl (sizeA x y)

/-- What is at the bottom and at the top; 0 if none is there. -/
def bot (d : List Int) : Int := d.head?.getD 0
def top (d : List Int) : Int := d.getLast?.getD 0

set_option maxRecDepth 100000 in
set_option maxHeartbeats 4000000 in
theorem ends_any (B a : Nat) (d : List Int) (x : Nat) (w : World) (h : OpenAt B a d x w) (hx : x ≤ 7) :
    Calls Tryd.prog 50 #[.pointer (some ⟨a, 0, none⟩)] w fun e w' => e = .returned (.agg #[.int .i64 (bot d), .int .i64 (top d)]) ∧ Below w.heap.size w w' := by
  obtain ⟨F, bo, tp, hF, hbt, htx, hd, hm⟩ := h
  obtain ⟨x0, hx0⟩ : ∃ x0, bot d = x0 := ⟨_, rfl⟩
  obtain ⟨x1, hx1⟩ : ∃ x1, top d = x1 := ⟨_, rfl⟩
  rw [hx0, hx1]
  go_enter Tryd.func50, Tryd.ntmps50
  go_wp2_with (refine wpList_alloc_agg rfl _ rfl #[.int .i64 0, .int .i64 0] 2 infoA ?_)
  obtain ⟨W1, hW1⟩ : ∃ W1, w.alloc (.cells #[.int .i64 0, .int .i64 0] 69) = W1 := ⟨_, rfl⟩
  have hm1 : W1.ownsRow B 65 9 (.slice (some ⟨a, 0, none⟩) 1 1) 1 (cellsO F bo tp) := by rw [← hW1]; exact hm.alloc _
  have hr1 : Arr2 W1 w.heap.size w.heap.size (.int .i64 0) (.int .i64 0) := by rw [← hW1]; exact arr2_alloc _ _ _
  have hb1 : Below w.heap.size w W1 := by rw [← hW1]; exact (Below.refl _ _).alloc (Nat.le_refl _) _
  rw [hW1]
  clear hW1 hm
  have c7 := oc_cell hm1 (co_bo hF)
  have c8 := oc_cell hm1 (co_tp hF)
  by_cases hd0 : d = []
  · subst hd0
    obtain rfl : 0 = x0 := hx0
    obtain rfl : 0 = x1 := hx1
    have hbt' : bo = tp := by simpa using hbt
    have hbe : ((bo : Int) == (tp : Int)) = true := by rw [beq_iff_eq]; omega
    clear hbt hd
    go_quiet (fail)
    have hr2 : Arr2 (W1.drewN nq) w.heap.size w.heap.size (.int .i64 0) (.int .i64 0) := hr1
    have hb2 : Below w.heap.size w (W1.drewN nq) := ExactC.below_drewN hb1
    obtain ⟨W2, hW2⟩ : ∃ W2, W1.drewN nq = W2 := ⟨_, rfl⟩
    rw [hW2] at hr2 hb2 ⊢
    obtain ⟨k0, k1, f0, f1⟩ := arr2_cells hr2
    obtain ⟨s1, s2, hN⟩ := arr2_store hr2 (.int .i64 0) (.int .i64 0)
    have HN := Go.Lib.hid (And.intro hN (arr2_below (Nat.le_refl _) hb2 (.int .i64 0) (.int .i64 0)))
    clear hW2 c7 c8 hm1 hr1 hb1 hb2 hr2 hN
    go_wp2_with (refine wpList_build_is rfl _ rfl #[.int .i64 0, .int .i64 0] builtA ?_)
    (try simp only [Exit.inBlock, Exit.then])
    refine bodyPost_ret (arr2_result rfl rfl HN.out.1) rfl ?_
    exact ⟨rfl, HN.out.2⟩
  · obtain ⟨m, hmd⟩ : ∃ m, d.length = m + 1 := ⟨d.length - 1, by have := List.length_pos_iff.2 hd0; omega⟩
    have hbe : ((bo : Int) == (tp : Int)) = false := by rw [beq_eq_false_iff_ne]; omega
    have htp : tp = bo + m + 1 := by omega
    have hb7 : bo + m < 7 := by omega
    have n0 := oc_cell hm1 (co_num hF (j := bo) (by omega))
    have n1 := oc_cell hm1 (co_num hF (j := bo + m) (by omega))
    have e0 : F.getD bo 0 = bot d := by
      rw [show bo = bo + 0 from rfl, hd 0 (by omega)]
      cases d with
      | nil => exact absurd rfl hd0
      | cons y ys => rfl
    have e1 : F.getD (bo + m) 0 = top d := by
      rw [hd m (by omega)]
      unfold top
      rw [List.getLast?_eq_getElem?, hmd]
      rfl
    rw [e0] at n0
    rw [e1] at n1
    have q1 : IntKind.i64.wrap ((tp : Int) - 1) = ((bo + m : Nat) : Int) := by rw [IntWalk.i64_in _ (by omega)]; omega
    have i0 : (bo : Int) < 7 := by omega
    have i1 : (((bo + m : Nat) : Int)) < 7 := by omega
    rw [hx0] at n0
    rw [hx1] at n1
    obtain ⟨j1, hj1⟩ : ∃ j1, bo + m = j1 := ⟨_, rfl⟩
    rw [hj1] at n1 q1 i1
    have HJ := Go.Lib.hid (And.intro hbt (And.intro htp hj1))
    clear hbt hd e0 e1 hmd htp hb7 hj1 hx0 hx1 hd0
    go_quiet (fail)
    have hr2 : Arr2 (W1.drewN nq) w.heap.size w.heap.size (.int .i64 0) (.int .i64 0) := hr1
    have hb2 : Below w.heap.size w (W1.drewN nq) := ExactC.below_drewN hb1
    have c72 : (W1.drewN nq).cell? ⟨a, 7, none⟩ = some (.int .i64 (bo : Int)) := c7
    have c82 : (W1.drewN nq).cell? ⟨a, 8, none⟩ = some (.int .i64 (tp : Int)) := c8
    have n02 : (W1.drewN nq).cell? ⟨a, bo, none⟩ = some (.int .i64 x0) := n0
    have n12 : (W1.drewN nq).cell? ⟨a, j1, none⟩ = some (.int .i64 x1) := n1
    obtain ⟨W2, hW2⟩ : ∃ W2, W1.drewN nq = W2 := ⟨_, rfl⟩
    rw [hW2] at hr2 hb2 c72 c82 n02 n12 ⊢
    clear hW2 c7 c8 n0 n1 hm1 hr1 hb1
    go_wp2_with fail
    refine wp_region_still_tail 20 (by kernel_rfl) (by kernel_rfl) ?_
    simp only [List.take_succ_cons, List.take_zero, List.drop_succ_cons, List.drop_zero]
    obtain ⟨wo, hwo⟩ : ∃ wo, wo = W2 := ⟨_, rfl⟩
    subst hwo
    repeat still_step
    refine wpStill_nil ?_
    have hr3 : Arr2 wo.drew w.heap.size w.heap.size (.int .i64 0) (.int .i64 0) := hr2
    have hb3 : Below w.heap.size w wo.drew := hb2.trans (Drawn.below (w' := wo.drew) ⟨1, rfl⟩ _)
    obtain ⟨W3, hW3⟩ : ∃ W3, wo.drew = W3 := ⟨_, rfl⟩
    have hW3' : ({ heap := wo.heap, tape := wo.tape, drawn := wo.drawn + 1, os := wo.os, output := wo.output } : World) = W3 := hW3
    rw [hW3] at hr3 hb3
    rw [hW3']
    obtain ⟨k0, k1, f0, f1⟩ := arr2_cells hr3
    obtain ⟨s1, s2, hN⟩ := arr2_store hr3 (.int .i64 x0) (.int .i64 x1)
    have HN := Go.Lib.hid (And.intro hN (arr2_below (Nat.le_refl _) hb3 (.int .i64 x0) (.int .i64 x1)))
    clear hW3 hW3' hr3 hb3 hN hb2 hr2 c72 c82 n02 n12
    go_wp2_with fail
    (try simp only [Exit.inBlock, Exit.then])
    refine bodyPost_ret (arr2_result rfl rfl HN.out.1) rfl ?_
    exact ⟨rfl, HN.out.2⟩

theorem getD_set_self {l : List Int} {i : Nat} {a d : Int} (h : i < l.length) : (l.set i a).getD i d = a := by simp [h]
theorem getD_set_other {l : List Int} {i j : Nat} {a d : Int} (h : i ≠ j) : (l.set i a).getD j d = l.getD j d := by
  simp [h]

theorem grown_drew (w : World) (row : Option Nat) : w.grownBy w.drew row := ⟨rfl, rfl, rfl, Nat.le_refl _, fun _ _ _ => rfl⟩

theorem snoc_getD {l : List Int} {z : Int} {j : Nat} (hj : j < l.length + 1) : (l ++ [z]).getD j 0 = if j < l.length then l.getD j 0 else z := by
  by_cases h : j < l.length
  · rw [if_pos h]; simp [List.getElem?_append_left h]
  · rw [if_neg h]
    have : j = l.length := by omega
    subst this
    simp

set_option maxRecDepth 100000 in
set_option maxHeartbeats 4000000 in
theorem push_any (B a : Nat) (d : List Int) (x : Nat) (w : World) (h : OpenAt B a d x w) (hx : x < 7) (z : Int) :
    Calls Tryd.prog 47 #[.pointer (some ⟨a, 0, none⟩), .int .i64 z] w fun e w' => e = .returned (.tuple #[]) ∧ OpenAt B a (d ++ [z]) (x + 1) w' ∧ w.grownBy w' (some a) := by
  obtain ⟨F, bo, tp, hF, hbt, htx, hd, hm⟩ := h
  have c8 := oc_cell hm (co_tp hF)
  have c0 := oc_cell hm (co_num hF (j := tp) (by omega))
  have f0 := World.ownsRow.frozenAt hm tp
  have hti : (tp : Int) < 7 := by omega
  have h1 := World.ownsRow.stored hm tp (.int .i64 z)
  rw [co_set_num hF (by omega)] at h1
  have hF1 : (F.set tp z).length = 7 := by rw [List.length_set]; exact hF
  have H1 := Go.Lib.hid h1
  have HD := Go.Lib.hid (And.intro hbt hd)
  clear h1 hm hbt hd
  go_enter Tryd.func47, Tryd.ntmps47
  go_wp2_with fail
  go_region
  have hm1 : ((w.setCell ⟨a, tp, none⟩ (.int .i64 z)).drew).ownsRow B 65 9 (.slice (some ⟨a, 0, none⟩) 1 1) 1 (cellsO (F.set tp z) bo tp) := H1.out.1
  have hg1 : w.grownBy ((w.setCell ⟨a, tp, none⟩ (.int .i64 z)).drew) (some a) := World.grownBy.trans H1.out.2 (grown_drew _ _)
  obtain ⟨w1, hw1⟩ : ∃ w1, (w.setCell ⟨a, tp, none⟩ (.int .i64 z)).drew = w1 := ⟨_, rfl⟩
  rw [hw1] at hm1 hg1 ⊢
  clear hw1 c8 c0 f0 H1
  have c8 := oc_cell hm1 (co_tp hF1)
  have f0 := World.ownsRow.frozenAt hm1 8
  have h2 := World.ownsRow.stored hm1 8 (.int .i64 ((tp + 1 : Nat) : Int))
  rw [co_set_tp hF1] at h2
  have H2 := Go.Lib.hid h2
  have HG := Go.Lib.hid hg1
  have q1 : IntKind.i64.wrap ((tp : Int) + 1) = ((tp + 1 : Nat) : Int) := by rw [IntWalk.i64_in _ (by omega)]; omega
  clear h2 hm1 hg1
  go_wp2
  go_end0
  refine ⟨rfl, ⟨F.set tp z, bo, tp + 1, hF1, ?_, by omega, ?_, ?_⟩, ?_⟩
  · rw [List.length_append]; have := HD.out.1; simp; omega
  · intro j hj
    have hbt := HD.out.1
    rw [List.length_append] at hj
    simp at hj
    rw [snoc_getD hj]
    by_cases hjd : j < d.length
    · rw [if_pos hjd, getD_set_other (by omega)]
      exact HD.out.2 j hjd
    · rw [if_neg hjd, show bo + j = tp by omega, getD_set_self (by omega)]
  · have := H2.out.1; simpa using this
  · have := World.grownBy.trans HG.out H2.out.2; simpa using this

set_option maxRecDepth 100000 in
set_option maxHeartbeats 4000000 in
theorem pop_bottom (B a : Nat) (d : List Int) (x : Nat) (w : World) (h : OpenAt B a d x w) (hx : x ≤ 7) (hd0 : d ≠ []) :
    Calls Tryd.prog 48 #[.pointer (some ⟨a, 0, none⟩), .int .u8 66] w fun e w' => e = .returned (.int .i64 (bot d)) ∧ OpenAt B a d.tail x w' ∧ w.grownBy w' (some a) := by
  have CE := Go.Lib.hid (ends_any B a d x w h hx)
  obtain ⟨x0, hx0⟩ : ∃ x0, bot d = x0 := ⟨_, rfl⟩
  obtain ⟨x1, hx1⟩ : ∃ x1, top d = x1 := ⟨_, rfl⟩
  rw [hx0, hx1] at CE
  rw [hx0]
  have HH := Go.Lib.hid h
  clear h hx0 hx1
  go_enter Tryd.func48, Tryd.ntmps48
  go_wp2_with fail
  refine CE.out.mono ?_
  rintro e w1 ⟨rfl, hb1⟩
  have hN := arr2_alloc w1 (.int .i64 x0) (.int .i64 x1)
  have hbN : Below w.heap.size w (w1.alloc (.cells #[.int .i64 x0, .int .i64 x1] 69)) := hb1.alloc hb1.size _
  have hge : w.heap.size ≤ w1.heap.size := hb1.size
  clear CE hb1
  go_upto_region 2 with (refine wpList_alloc_agg rfl _ rfl #[.int .i64 0, .int .i64 0] 2 infoA ?_)
  obtain ⟨w2, hw2⟩ : ∃ w2, w1.alloc (.cells #[.int .i64 x0, .int .i64 x1] 69) = w2 := ⟨_, rfl⟩
  rw [hw2] at hN hbN ⊢
  obtain ⟨g2, hg2⟩ : ∃ g2, w1.heap.size = g2 := ⟨_, rfl⟩
  rw [hg2] at hN hge ⊢
  clear hw2 hg2
  obtain ⟨k0, k1, f0, f1⟩ := arr2_cells hN
  have hOp := HH.out.call hbN
  have hlt : a < w.heap.size := HH.out.ge.2
  have hne : a ≠ g2 := by omega
  obtain ⟨F, bo, tp, hF, hbt, htx, hd, hm⟩ := hOp
  have hl0 := List.length_pos_iff.2 hd0
  have cc := oc_cell hm (co_bo hF)
  have ff := World.ownsRow.frozenAt hm 7
  have h2 := World.ownsRow.stored hm 7 (.int .i64 (((bo + 1 : Nat) : Int) : Int))
  rw [co_set_bo hF] at h2
  have q1 : IntKind.i64.wrap ((bo : Int) + 1) = ((bo + 1 : Nat) : Int) := by rw [IntWalk.i64_in _ (by omega)]; omega
  have kk : (w2.setCell ⟨a, 7, none⟩ (.int .i64 (((bo + 1 : Nat) : Int) : Int))).cell? ⟨g2, 0, none⟩ = some (.int .i64 x0) := (h2.2.cell k0 (by simp; omega))
  have H2 := Go.Lib.hid h2
  have HD := Go.Lib.hid (And.intro hbt (And.intro hd (And.intro hl0 hbN)))
  clear h2 hm hbt hd hl0 hN hbN hge hne
  go_wp2
  all_goals skip
  go_ret
  refine ⟨rfl, ⟨F, (bo + 1), tp, hF, by have := HD.out.1; have := HD.out.2.2.1; rw [List.length_tail]; omega, htx, ?_, ?_⟩, ?_⟩
  · intro j hj
    have hbt := HD.out.1
    have hd := HD.out.2.1
    have hj2 : j + 1 < d.length := by rw [List.length_tail] at hj; omega
    rw [show bo + 1 + j = bo + (j + 1) by omega, hd (j + 1) hj2]
    cases d with
    | nil => simp at hj2
    | cons y ys => rfl
  · have := H2.out.1; simpa using this
  · have := World.grownBy.trans (grown_of_below HD.out.2.2.2 (some a)) H2.out.2; simpa using this

set_option maxRecDepth 100000 in
set_option maxHeartbeats 4000000 in
theorem pop_top (B a : Nat) (d : List Int) (x : Nat) (w : World) (h : OpenAt B a d x w) (hx : x ≤ 7) (hd0 : d ≠ []) :
    Calls Tryd.prog 48 #[.pointer (some ⟨a, 0, none⟩), .int .u8 84] w fun e w' => e = .returned (.int .i64 (top d)) ∧ OpenAt B a d.dropLast x w' ∧ w.grownBy w' (some a) := by
  have CE := Go.Lib.hid (ends_any B a d x w h hx)
  obtain ⟨x0, hx0⟩ : ∃ x0, bot d = x0 := ⟨_, rfl⟩
  obtain ⟨x1, hx1⟩ : ∃ x1, top d = x1 := ⟨_, rfl⟩
  rw [hx0, hx1] at CE
  rw [hx1]
  have HH := Go.Lib.hid h
  clear h hx0 hx1
  go_enter Tryd.func48, Tryd.ntmps48
  go_wp2_with fail
  refine CE.out.mono ?_
  rintro e w1 ⟨rfl, hb1⟩
  have hN := arr2_alloc w1 (.int .i64 x0) (.int .i64 x1)
  have hbN : Below w.heap.size w (w1.alloc (.cells #[.int .i64 x0, .int .i64 x1] 69)) := hb1.alloc hb1.size _
  have hge : w.heap.size ≤ w1.heap.size := hb1.size
  clear CE hb1
  go_upto_region 2 with (refine wpList_alloc_agg rfl _ rfl #[.int .i64 0, .int .i64 0] 2 infoA ?_)
  obtain ⟨w2, hw2⟩ : ∃ w2, w1.alloc (.cells #[.int .i64 x0, .int .i64 x1] 69) = w2 := ⟨_, rfl⟩
  rw [hw2] at hN hbN ⊢
  obtain ⟨g2, hg2⟩ : ∃ g2, w1.heap.size = g2 := ⟨_, rfl⟩
  rw [hg2] at hN hge ⊢
  clear hw2 hg2
  obtain ⟨k0, k1, f0, f1⟩ := arr2_cells hN
  have hOp := HH.out.call hbN
  have hlt : a < w.heap.size := HH.out.ge.2
  have hne : a ≠ g2 := by omega
  obtain ⟨F, bo, tp, hF, hbt, htx, hd, hm⟩ := hOp
  have hl0 := List.length_pos_iff.2 hd0
  have cc := oc_cell hm (co_tp hF)
  have ff := World.ownsRow.frozenAt hm 8
  have h2 := World.ownsRow.stored hm 8 (.int .i64 (((tp - 1 : Nat) : Int) : Int))
  rw [co_set_tp hF] at h2
  have q1 : IntKind.i64.wrap ((tp : Int) - 1) = ((tp - 1 : Nat) : Int) := by rw [IntWalk.i64_in _ (by omega)]; omega
  have kk : (w2.setCell ⟨a, 8, none⟩ (.int .i64 (((tp - 1 : Nat) : Int) : Int))).cell? ⟨g2, 1, none⟩ = some (.int .i64 x1) := (h2.2.cell k1 (by simp; omega))
  have H2 := Go.Lib.hid h2
  have HD := Go.Lib.hid (And.intro hbt (And.intro hd (And.intro hl0 hbN)))
  clear h2 hm hbt hd hl0 hN hbN hge hne
  go_wp2
  all_goals skip
  go_ret
  refine ⟨rfl, ⟨F, bo, (tp - 1), hF, by have := HD.out.1; have := HD.out.2.2.1; rw [List.length_dropLast]; omega, by omega, ?_, ?_⟩, ?_⟩
  · intro j hj
    have hbt := HD.out.1
    have hd := HD.out.2.1
    have hj2 : j < d.length := by rw [List.length_dropLast] at hj; omega
    rw [hd j hj2]
    rw [List.length_dropLast] at hj
    rw [List.dropLast_eq_take, List.getD_eq_getElem?_getD, List.getD_eq_getElem?_getD, List.getElem?_take, if_pos hj]
  · have := H2.out.1; simpa using this
  · have := World.grownBy.trans (grown_of_below HD.out.2.2.2 (some a)) H2.out.2; simpa using this

/-- The struct, a row of the call's own beside it, and what was there before. -/
def StE (T : TypeId) (W : World) (a : Nat) (d : List Int) (x : Nat) (v : Value) (n : Nat) (xs : List Value) (w : World) : Prop :=
  OpenAt W.heap.size a d x w ∧ w.ownsRow W.heap.size T 1 v n xs ∧ Below W.heap.size W w

theorem StE.call {T : TypeId} {W : World} {a : Nat} {d : List Int} {x : Nat} {v : Value} {n : Nat} {xs : List Value} {w w' : World} (h : StE T W a d x v n xs w) (hb : Below w.heap.size w w') : StE T W a d x v n xs w' :=
  ⟨h.1.call hb, kept_call h.2.1 hb, h.2.2.trans (hb.mono h.2.2.size)⟩

theorem StE.app {T : TypeId} {W : World} {a : Nat} {d : List Int} {x : Nat} {v v' : Value} {n n' : Nat} {xs xs' : List Value} {w w' : World} {o : Obj} (h : StE T W a d x v n xs w) (hT : 65 ≠ T) (ho : w'.ownsRow W.heap.size T 1 v' n' xs') (hg : (w.alloc o).grownBy w' v.ownBlock) : StE T W a d x v' n' xs' w' :=
  ⟨(h.1.call ((Below.refl _ _).alloc (Nat.le_refl _) o)).mark hg (h.1.apart h.2.1 hT), ho, (h.2.2.alloc h.2.2.size o).grown hg (by have := h.2.2.size; simp; omega) (fun q hq => (h.2.1.lt q hq).1)⟩

theorem StE.moved {T : TypeId} {W : World} {a : Nat} {d d' : List Int} {x x' : Nat} {v : Value} {n : Nat} {xs : List Value} {w w' : World} (h : StE T W a d x v n xs w) (hT : 65 ≠ T) (ho : OpenAt W.heap.size a d' x' w') (hg : w.grownBy w' (some a)) : StE T W a d' x' v n xs w' :=
  ⟨ho, own_mark h.2.1 hg (fun q hq e => by cases e; exact h.1.apart h.2.1 hT hq), h.2.2.grown hg h.2.2.size (fun q hq => by cases hq; exact h.1.ge.1)⟩

end Go.Proofs.YtpkjnlabjmpokabDoor.OpSC
