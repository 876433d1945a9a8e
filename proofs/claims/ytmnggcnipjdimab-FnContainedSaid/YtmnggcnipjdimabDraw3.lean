/-
  Contracts of the model's drawn arguments of the functions on patterns. Conditions: the code has at most 65536 bytes.
-/
import Derived.Test.YtmnggcnipjdimabDrawOrd
import Derived.Test.YtmnggcnipjdimabAt
import Derived.BigQuiet
import Derived.IntWalk
import Derived.Deep.QuietTactic
namespace Go.Proofs.Ytmnggcnipjdimab.Draw3C
open Go.RowKit SeesC IntsC ExactC OrdMath OrderC CurC CurMoreC DrawOrdC AtC

/-- A list comes back in memory of the call's own; nothing that was there has turned. -/
def OneL (w : World) (e : Ending) (w' : World) : Prop :=
  ∃ (v : Value) (zs : List Int), e = .returned v ∧ zs.length ≤ 8 ∧ w'.ownsRow w.heap.size 3 1 v zs.length (vals zs) ∧ Below w.heap.size w w'

/-- Two lists come back in memory of the call's own; nothing that was there has turned. -/
def TwoL (w : World) (e : Ending) (w' : World) : Prop :=
  ∃ (v u : Value) (zs ys : List Int), e = .returned (.tuple #[v, u]) ∧ zs.length ≤ 8 ∧ ys.length ≤ 8 ∧ w'.ownsRow w.heap.size 3 1 v zs.length (vals zs) ∧ w'.ownsRow w.heap.size 3 1 u ys.length (vals ys) ∧ Below w.heap.size w w'

/-- A list and a number come back. -/
def ListNum (w : World) (e : Ending) (w' : World) : Prop :=
  ∃ (v : Value) (zs : List Int) (k : Int), e = .returned (.tuple #[v, .int .i64 k]) ∧ zs.length ≤ 8 ∧ -100 ≤ k ∧ k ≤ 100 ∧ w'.ownsRow w.heap.size 3 1 v zs.length (vals zs) ∧ Below w.heap.size w w'

def patT : List (List Int) := [[2, 3, 1], [1, 2, 3], [3, 2, 1], [1, 3, 2], [2, 1], [1, 2], [2, 1, 3], [3, 1, 2], [2, 4, 1, 3], [1, 3, 2, 4], [1]]

def layAll : World → List (List Int) → World
  | w, [] => w
  | w, l :: r => layAll (w.alloc (.cells (l.map (Value.int .i64)).toArray 3)) r

def rowsAt : Nat → List (List Int) → List Value
  | _, [] => []
  | b, l :: r => .slice (some ⟨b, 0, none⟩) l.length l.length :: rowsAt (b + 1) r

theorem layAll_size : ∀ (r : List (List Int)) (w : World), (layAll w r).heap.size = w.heap.size + r.length
  | [], w => rfl
  | l :: r, w => by
    show (layAll (w.alloc _) r).heap.size = _
    rw [layAll_size r]
    simp
    omega

theorem layAll_below : ∀ (r : List (List Int)) (w : World), Below w.heap.size w (layAll w r)
  | [], w => Below.refl _ _
  | l :: r, w => by
    have h1 := (Below.refl w.heap.size w).alloc (Nat.le_refl _) (.cells (l.map (Value.int .i64)).toArray 3)
    exact h1.trans ((layAll_below r (w.alloc (.cells (l.map (Value.int .i64)).toArray 3))).mono (by simp))

theorem layAll_cell : ∀ (r : List (List Int)) (w : World) (j i : Nat), j < r.length → i < (r.getD j []).length → (layAll w r).cell? ⟨w.heap.size + j, i, none⟩ = some (.int .i64 ((r.getD j []).getD i 0))
  | [], w, j, i, h, _ => by simp at h
  | l :: r, w, 0, i, _, hi => by
    have h1 := cell_ints w l 3 i (l.getD i 0) (by simp at hi; simp [hi])
    have h2 := layAll_below r (w.alloc (.cells (l.map (Value.int .i64)).toArray 3))
    exact (h2.cell (p := ⟨w.heap.size, i, none⟩) (by simp)).trans h1
  | l :: r, w, j + 1, i, hj, hi => by
    have h1 := layAll_cell r (w.alloc (.cells (l.map (Value.int .i64)).toArray 3)) j i (by simpa using hj) (by simpa using hi)
    rw [World.size_alloc] at h1
    have e : w.heap.size + (j + 1) = w.heap.size + 1 + j := by omega
    rw [e, List.getD_cons_succ]
    exact h1

theorem rowsAt_at : ∀ (r : List (List Int)) (b j : Nat), j < r.length → (rowsAt b r)[j]? = some (.slice (some ⟨b + j, 0, none⟩) (r.getD j []).length (r.getD j []).length)
  | [], b, j, h => by simp at h
  | l :: r, b, 0, _ => by simp [rowsAt]
  | l :: r, b, j + 1, h => by
    have h1 := rowsAt_at r (b + 1) j (by simpa using h)
    have e : b + (j + 1) = b + 1 + j := by omega
    rw [e]
    simpa [rowsAt] using h1

def PW (w : World) : World := (layAll w patT).alloc (.cells (rowsAt w.heap.size patT).toArray 24)

theorem pw_below (w : World) : Below w.heap.size w (PW w) := (layAll_below patT w).alloc (by rw [layAll_size]; omega) _

theorem pw_row (w : World) (j : Nat) (hj : j < 11) : (PW w).cell? ⟨w.heap.size + 1 + 1 + 1 + 1 + 1 + 1 + 1 + 1 + 1 + 1 + 1, j, none⟩ = some (.slice (some ⟨w.heap.size + j, 0, none⟩) (patT.getD j []).length (patT.getD j []).length) := by
  have e : w.heap.size + 1 + 1 + 1 + 1 + 1 + 1 + 1 + 1 + 1 + 1 + 1 = (layAll w patT).heap.size := by rw [layAll_size]; rfl
  rw [e]
  unfold PW
  rw [World.cell?_alloc_new]
  have h := rowsAt_at patT w.heap.size j hj
  simpa using h

theorem pw_cell (w : World) (j i : Nat) (hj : j < 11) (hi : i < (patT.getD j []).length) : (PW w).cell? ⟨w.heap.size + j, i, none⟩ = some (.int .i64 ((patT.getD j []).getD i 0)) := by
  have h1 := layAll_cell patT w j i hj hi
  have h2 := (Below.refl (layAll w patT).heap.size (layAll w patT)).alloc (Nat.le_refl _) (.cells (rowsAt w.heap.size patT).toArray 24)
  exact (h2.cell (p := ⟨w.heap.size + j, i, none⟩) (by rw [layAll_size]; show w.heap.size + j < w.heap.size + 11; omega)).trans h1

theorem patT_len : ∀ j, j < 11 → (patT.getD j []).length ≤ 4 := by decide

set_option maxRecDepth 100000 in
set_option maxHeartbeats 2000000 in
theorem pattern3_any (B lim : Nat) (w : World) (h : Cur w B lim) (hl : lim ≤ 900000) :
    Calls Try.prog 83 #[.pointer (some ⟨B, 0, none⟩)] w fun e w' => DrewL B (lim + 30) w e w' := by
  have hB := cur_lt h
  have hg0 : w.grownBy (PW w) none := grown_of_below (pw_below w) none
  have hc0 := cur_kept h hg0 (fun k e => by cases e)
  have C1 := Go.Lib.hid (one_any B lim 5 (PW w) hc0 (by omega) (by omega) (by omega))
  have HG0 := Go.Lib.hid (And.intro hg0 hB)
  clear h hc0 hg0 hB
  go_enter Try.func83, Try.ntmps83
  go_wp2_with fail
  change Calls Try.prog _ _ (PW w) _
  refine (C1.out).mono ?_
  rintro e W1 ⟨b, rfl, hc1, hg1⟩
  have hgw1 : w.grownBy W1 (some B) := IntsC.grown_trans (grown_of_below (pw_below w) (some B)) hg1
  cases b with
  | true =>
    have C2 := Go.Lib.hid (order_any B (lim + 2) W1 (hc1.more (by omega)) (by omega))
    have H1 := Go.Lib.hid hgw1
    clear hc1 hg1 hgw1
    go_wp2_with fail
    refine (C2.out).mono ?_
    rintro e W2 ⟨g, c, zs, rfl, hz8, ho, hc2, hg2⟩
    have H2 := Go.Lib.hid (And.intro (own_lower ho H1.out.size) (And.intro (show Cur W2 B (lim + 30) from hc2.more (by omega)) (IntsC.grown_trans H1.out hg2)))
    clear ho hc2 hg2
    go_wp2_with fail
    go_ret
    exact ⟨g, c, zs, rfl, hz8, H2.out.1, H2.out.2.1, H2.out.2.2⟩
  | false =>
    have C2 := Go.Lib.hid (pick_any B (lim + 2) 11 W1 (hc1.more (by omega)) (by omega) (by omega) (by omega))
    have H1 := Go.Lib.hid (And.intro hgw1 hg1)
    clear hc1 hg1 hgw1
    go_wp2_with fail
    refine (C2.out).mono ?_
    rintro e W2 ⟨x, rfl, hx0, hx1, hc2, hg2⟩
    obtain ⟨j, rfl⟩ : ∃ j : Nat, x = (j : Int) := ⟨x.toNat, by omega⟩
    have hj : j < 11 := by omega
    have hgp2 := IntsC.grown_trans H1.out.2 hg2
    have hBw := HG0.out.2
    have hck : W2.cell? ⟨w.heap.size + 1 + 1 + 1 + 1 + 1 + 1 + 1 + 1 + 1 + 1 + 1, j, none⟩ = some (.slice (some ⟨w.heap.size + j, 0, none⟩) (patT.getD j []).length (patT.getD j []).length) := hgp2.cell (pw_row w j hj) (by intro e; dsimp only at e; injection e with e; omega)
    have CO := Go.Lib.hid (l1Own_any (patT.getD j []) (w.heap.size + j) 0 (patT.getD j []).length (patT.getD j []).length W2 rfl (by have := patT_len j hj; omega) (fun i hi => by
      rw [Nat.zero_add]
      exact hgp2.cell (pw_cell w j i hj hi) (by intro e; dsimp only at e; injection e with e; omega)))
    have hl4 := patT_len j hj
    have H2 := Go.Lib.hid (And.intro (IntsC.grown_trans H1.out.1 hg2) hc2)
    obtain ⟨ln, hln⟩ : ∃ ln, (patT.getD j []).length = ln := ⟨_, rfl⟩
    obtain ⟨zs, hzs⟩ : ∃ zs, patT.getD j [] = zs := ⟨_, rfl⟩
    rw [hln] at hck CO hl4
    rw [hzs] at CO hln
    have HLN := Go.Lib.hid hln
    have hji : (j : Int) < 11 := by omega
    clear hc2 hg2 hgp2 hBw hzs hln
    go_wp2_with fail
    refine (CO.out).mono ?_
    rintro e W3 ⟨g, c, rfl, ho, hb⟩
    have H3 := Go.Lib.hid (And.intro (own_lower ho H2.out.1.size) (And.intro (cur_kept H2.out.2 (grown_of_below hb none) (fun k e => by cases e)) (IntsC.grown_trans H2.out.1 (grown_of_below hb (some B)))))
    clear ho hb
    go_wp2_with fail
    go_ret
    exact ⟨g, c, zs, by rw [HLN.out]; rfl, by rw [HLN.out]; omega, by rw [HLN.out]; exact H3.out.1, H3.out.2.1.more (by omega), H3.out.2.2⟩

set_option maxRecDepth 100000 in
theorem drawContains_any (v : Value) (n : Nat) (zs : List Int) (w : World) (hv : Sees w v n (zs.map (Value.int .u8))) (hz : ∀ z ∈ zs, 0 ≤ z ∧ z ≤ 255) (hn : n ≤ 65536) :
    Calls Try.prog 43 #[v] w fun e w' => TwoL w e w' := by
  have c0 := cur_made hv hz hn
  obtain ⟨_, a, cap, rfl, _, _⟩ := hv
  have C1 := Go.Lib.hid (order_any w.heap.size 0 _ c0 (by decide))
  have HB0 := Go.Lib.hid ((Below.refl w.heap.size w).alloc (Nat.le_refl _) (.cells #[.slice a n cap, .int .i64 0, .int .u64 0] 67))
  clear c0
  go_enter Try.func43, Try.ntmps43
  go_wp2_with fail
  refine (C1.out).mono ?_
  rintro e W1 ⟨g, c, ys, rfl, hys, ho, hc, hg⟩
  have hgl : w.heap.size < g := by have := (ho.lt g rfl).1; simp at this; omega
  have C2 := Go.Lib.hid (pattern3_any w.heap.size 22 W1 (hc.more (by omega)) (by omega))
  have H1 := Go.Lib.hid (And.intro (own_lower ho HB0.out.size) (HB0.out.grown hg HB0.out.size (fun k e => by cases e; exact Nat.le_refl _)))
  clear ho hc hg
  go_wp2_with fail
  refine (C2.out).mono ?_
  rintro e W2 ⟨g2, c2, xs, rfl, hxs, ho2, hc2, hg2⟩
  have H2 := Go.Lib.hid (And.intro (own_mark H1.out.1 hg2 (fun a ha e => by simp only [Value.ownBlock, Option.some.injEq] at ha e; omega)) (And.intro (own_lower ho2 H1.out.2.size) (H1.out.2.grown hg2 H1.out.2.size (fun k e => by cases e; exact Nat.le_refl _))))
  clear ho2 hc2 hg2
  go_wp2_with fail
  go_ret2
  exact ⟨_, _, ys, xs, rfl, hys, hxs, H2.out.1, H2.out.2.1, H2.out.2.2⟩

set_option maxRecDepth 100000 in
theorem drawFirst_any (v : Value) (n : Nat) (zs : List Int) (w : World) (hv : Sees w v n (zs.map (Value.int .u8))) (hz : ∀ z ∈ zs, 0 ≤ z ∧ z ≤ 255) (hn : n ≤ 65536) :
    Calls Try.prog 6 #[v] w fun e w' => TwoL w e w' := by
  have C1 := Go.Lib.hid (drawContains_any v n zs w hv hz hn)
  clear hv
  go_enter Try.func6, Try.ntmps6
  go_wp2_with fail
  refine (C1.out).mono ?_
  rintro e W1 ⟨u, t, ys, xs, rfl, hys, hxs, ho, ho2, hb⟩
  have H := Go.Lib.hid (And.intro ho (And.intro ho2 hb))
  clear ho ho2 hb
  go_wp2_with fail
  go_ret2
  exact ⟨u, t, ys, xs, rfl, hys, hxs, H.out.1, H.out.2.1, H.out.2.2⟩

def shapeL : List Int := [4, 3, 5, 2, 7, 1, 0, 8]
theorem shape_bd (t : Int) (h : t ∈ shapeL) : 0 ≤ t ∧ t ≤ 8 := by
  have : ∀ t ∈ shapeL, 0 ≤ t ∧ t ≤ 8 := by decide
  exact this t h

set_option maxRecDepth 100000 in
set_option maxHeartbeats 2000000 in
theorem drawShape_any (v : Value) (n : Nat) (zs : List Int) (w : World) (hv : Sees w v n (zs.map (Value.int .u8))) (hz : ∀ z ∈ zs, 0 ≤ z ∧ z ≤ 255) (hn : n ≤ 65536) :
    Calls Try.prog 15 #[v] w fun e w' => OneL w e w' := by
  obtain ⟨i0, hi, hz0, hz1, hz2⟩ := info_parts infoI
  have c0 := cur_made hv hz hn
  obtain ⟨_, a, cap, rfl, _, _⟩ := hv
  obtain ⟨W0, hW0⟩ : ∃ W0, w.alloc (.cells #[.slice a n cap, .int .i64 0, .int .u64 0] 67) = W0 := ⟨_, rfl⟩
  have hsz0 : W0.heap.size = w.heap.size + 1 := by rw [← hW0]; simp
  have hB0 : Below w.heap.size w W0 := by rw [← hW0]; exact (Below.refl _ _).alloc (Nat.le_refl _) _
  rw [hW0] at c0
  have hc1 := cur_kept (cur_kept c0 (World.grownBy_alloc W0 (.cells #[] 3) none) (fun k e => by cases e)) (World.grownBy_alloc _ (.cells (shapeL.map (Value.int .i64)).toArray 3) none) (fun k e => by cases e)
  have C1 := Go.Lib.hid (among_any w.heap.size 0 (w.heap.size + 1 + 1) 8 shapeL ((W0.alloc (.cells #[] 3)).alloc (.cells (shapeL.map (Value.int .i64)).toArray 3)) hc1 (by omega) (by decide) (by decide) (by omega) (fun j x hx => by
    have h9 := cell_ints (W0.alloc (.cells #[] 3)) shapeL 3 j x hx
    rw [show (W0.alloc (.cells #[] 3)).heap.size = w.heap.size + 1 + 1 by simp [hsz0]] at h9
    exact h9))
  have hmade := World.ownsRow_made (base := w.heap.size + 1) (e := 3) (size := 1) W0 #[] 0 (by omega) (by unfold maxLen; omega) rfl
  rw [hsz0] at hmade
  have HB0 := Go.Lib.hid (And.intro ((hB0.alloc (by omega) (.cells #[] 3)).alloc (by simp; omega) (.cells (shapeL.map (Value.int .i64)).toArray 3)) (hmade.alloc (.cells (shapeL.map (Value.int .i64)).toArray 3)))
  subst hW0
  clear c0 hc1 hmade hB0 hsz0
  go_enter Try.func15, Try.ntmps15
  go_wp2_with fail
  refine (C1.out).mono ?_
  rintro e W1 ⟨t, ht, rfl, hc, hg⟩
  obtain ⟨ht0, ht8⟩ := shape_bd t ht
  obtain ⟨N, rfl⟩ : ∃ N : Nat, t = (N : Int) := ⟨t.toNat, by omega⟩
  have H1 := Go.Lib.hid (And.intro (HB0.out.1.grown hg HB0.out.1.size (fun k e => by cases e; exact Nat.le_refl _)) (And.intro (own_mark HB0.out.2 hg (fun a ha e => by
    have h1 := (HB0.out.2.lt a ha).1
    have h2 : w.heap.size = a := Option.some.inj e
    omega)) hc))
  clear ht hc hg
  go_wp2_with fail
  go_loopw [4, 5] (fun ov nv wr => ∃ (i q j g c : Nat) (out : List Int), nv = .int .i64 q ∧ ov = .slice (some ⟨g, 0, none⟩) j c ∧ i + q = N ∧ j ≤ i ∧ out.length = j ∧ Hid (wr.ownsRow (w.heap.size + 1) 3 1 (.slice (some ⟨g, 0, none⟩) j c) j (vals out) ∧ Cur wr w.heap.size (2 + 4 * i) ∧ Below w.heap.size w wr)) (fun _ nv _ => (intOf nv).toNat)
  case atStart => exact ⟨0, N, 0, w.heap.size + 1, 0, [], rfl, rfl, by omega, by omega, rfl, Go.Lib.hid ⟨H1.out.2.1, H1.out.2.2.more (by omega), H1.out.1⟩⟩
  case round =>
    obtain ⟨i, q, j, g, c, out, rfl, rfl, hiq, hji, hlo, HX⟩ := hrel
    clear H1
    by_cases hq : 0 < q
    · have hqi : (0 : Int) < (q : Int) := by omega
      have C2 := Go.Lib.hid (pick_any w.heap.size (2 + 4 * i) 200 wr HX.out.2.1 (by omega) (by omega) (by omega))
      have hgb := (HX.out.1.lt g rfl).1
      go_wp2_with fail
      refine (C2.out).mono ?_
      rintro e W2 ⟨x, rfl, hx0, hx1, hc2, hg2⟩
      have ho2 := own_mark HX.out.1 hg2 (fun a ha e => by
        have h1 : g = a := Option.some.inj ha
        have h2 : w.heap.size = a := Option.some.inj e
        omega)
      obtain ⟨r, hr⟩ : ∃ r, decide ((x - 100) ∈ out) = r := ⟨_, rfl⟩
      have CH := Go.Lib.hid (l1Has_any W2 _ j out (x - 100) r (Sees.owns ho2) (by unfold maxLen; omega) hr)
      have H2 := Go.Lib.hid (And.intro ho2 (And.intro hc2 (HX.out.2.2.grown hg2 HX.out.2.2.size (fun k e => by cases e; exact Nat.le_refl _))))
      have HLO := Go.Lib.hid hlo
      clear ho2 hc2 hg2 hr hlo
      go_wp2_with fail
      refine (CH.out).mono ?_
      rintro e w3 ⟨rfl, hw3⟩
      obtain rfl : W2 = w3 := hw3
      have APP : ∀ (X : World), (X.ownsRow (w.heap.size + 1) 3 1 (.slice (some ⟨g, 0, none⟩) j c) j (vals out) ∧ Cur X w.heap.size (2 + 4 * (i + 1)) ∧ Below w.heap.size w X) → ∀ (v' : Value) (w5 : World), w5.ownsRow (w.heap.size + 1) 3 1 v' (j + 1) (vals out ++ [.int .i64 (x - 100)]) → (X.alloc (.cells #[.int .i64 (x - 100)] 3)).grownBy w5 (some g) →
          w5.ownsRow (w.heap.size + 1) 3 1 v' (j + 1) (vals (out ++ [x - 100])) ∧ Cur w5 w.heap.size (2 + 4 * (i + 1)) ∧ Below w.heap.size w w5 := fun X hX v' w5 ho hg => by
        refine ⟨by simpa using ho, cur_kept (cur_kept hX.2.1 (World.grownBy_alloc X _ none) (fun k e => by cases e)) hg (fun k e => by cases e; omega), (hX.2.2.alloc hX.2.2.size _).grown hg (by have := hX.2.2.size; simp; omega) (fun k e => by cases e; omega)⟩
      have HAPP := Go.Lib.hid APP
      clear APP
      have hj8 : j ≤ 8 := by omega
      cases r with
      | false =>
        have H4 : Hid (W2.ownsRow (w.heap.size + 1) 3 1 (.slice (some ⟨g, 0, none⟩) j c) j (vals out) ∧ Cur W2 w.heap.size (2 + 4 * (i + 1)) ∧ Below w.heap.size w W2) := Go.Lib.hid ⟨H2.out.1, H2.out.2.1.more (by omega), H2.out.2.2⟩
        go_wp2_with (at_builtin; refine wpList_append_own _ rfl _ _ 24 rfl (w.heap.size + 1) 3 i0 (.int .i64 0) 1 8 Try.underlying24 hi hz0 hz1 hz2 rfl (by decide) _ _ _ rfl (H4.out.1.alloc _) ⟨W2.heap.size, 0, none⟩ 1 1 [.int .i64 (x - 100)] rfl rfl (cell_one_new _ _ _) (fun x hx => by simp at hx; subst hx; rfl) (by unfold maxLen; omega) (by omega) (by have h1 := cur_lt H4.out.2.1; simp; omega) ?_; intro v' w5 hown' hgrow5 hnil5)
        obtain ⟨g', cap', rfl⟩ := ownsRow_succ hown'
        have H5 := Go.Lib.hid (HAPP.out W2 H4.out _ w5 hown' hgrow5)
        clear hown' hgrow5 hnil5
        go_wp2
        go_roundw
        case rel => exact ⟨i + 1, q - 1, j + 1, g', cap', out ++ [x - 100], by go_num, rfl, by omega, by omega, by rw [List.length_append, HLO.out]; rfl, H5⟩
        case measure => simp [intOf]; omega
      | true =>
        have C4 := Go.Lib.hid (one_any w.heap.size (2 + 4 * i + 2) 40 W2 H2.out.2.1 (by omega) (by omega) (by omega))
        go_wp2_with fail
        refine (C4.out).mono ?_
        rintro e W4 ⟨b, rfl, hc4, hg4⟩
        have ho4 := own_mark H2.out.1 hg4 (fun a ha e => by
          have h1 : g = a := Option.some.inj ha
          have h2 : w.heap.size = a := Option.some.inj e
          omega)
        have H4 : Hid (W4.ownsRow (w.heap.size + 1) 3 1 (.slice (some ⟨g, 0, none⟩) j c) j (vals out) ∧ Cur W4 w.heap.size (2 + 4 * (i + 1)) ∧ Below w.heap.size w W4) := Go.Lib.hid ⟨ho4, hc4.more (by omega), H2.out.2.2.grown hg4 H2.out.2.2.size (fun k e => by cases e; exact Nat.le_refl _)⟩
        clear ho4 hc4 hg4
        cases b with
        | true =>
          go_wp2_with (at_builtin; refine wpList_append_own _ rfl _ _ 24 rfl (w.heap.size + 1) 3 i0 (.int .i64 0) 1 8 Try.underlying24 hi hz0 hz1 hz2 rfl (by decide) _ _ _ rfl (H4.out.1.alloc _) ⟨W4.heap.size, 0, none⟩ 1 1 [.int .i64 (x - 100)] rfl rfl (cell_one_new _ _ _) (fun x hx => by simp at hx; subst hx; rfl) (by unfold maxLen; omega) (by omega) (by have h1 := cur_lt H4.out.2.1; simp; omega) ?_; intro v' w5 hown' hgrow5 hnil5)
          obtain ⟨g', cap', rfl⟩ := ownsRow_succ hown'
          have H5 := Go.Lib.hid (HAPP.out W4 H4.out _ w5 hown' hgrow5)
          clear hown' hgrow5 hnil5
          go_wp2
          go_roundw
          case rel => exact ⟨i + 1, q - 1, j + 1, g', cap', out ++ [x - 100], by go_num, rfl, by omega, by omega, by rw [List.length_append, HLO.out]; rfl, H5⟩
          case measure => simp [intOf]; omega
        | false =>
          go_wp2_with fail
          go_roundw
          case rel => exact ⟨i + 1, q - 1, j, g, c, out, by go_num, rfl, by omega, by omega, HLO.out, H4⟩
          case measure => simp [intOf]; omega
    · have hq0 : q = 0 := by omega
      subst hq0
      go_wp2
      go_ret
      exact ⟨_, out, rfl, by omega, by rw [hlo]; exact own_lower HX.out.1 (by omega), HX.out.2.2⟩

def numL : List Int := [2, 3, 1, 4, 7, 0, 8]
theorem num_bd (t : Int) (h : t ∈ numL) : 0 ≤ t ∧ t ≤ 8 := by
  have : ∀ t ∈ numL, 0 ≤ t ∧ t ≤ 8 := by decide
  exact this t h

set_option maxRecDepth 100000 in
set_option maxHeartbeats 2000000 in
theorem drawPatterns_any (v : Value) (n : Nat) (zs : List Int) (w : World) (hv : Sees w v n (zs.map (Value.int .u8))) (hz : ∀ z ∈ zs, 0 ≤ z ∧ z ≤ 255) (hn : n ≤ 65536) :
    Calls Try.prog 19 #[v] w fun e w' => ListNum w e w' := by
  have c0 := cur_made hv hz hn
  obtain ⟨_, a, cap, rfl, _, _⟩ := hv
  have C1 := Go.Lib.hid (order_any w.heap.size 0 _ c0 (by decide))
  have HB0 := Go.Lib.hid ((Below.refl w.heap.size w).alloc (Nat.le_refl _) (.cells #[.slice a n cap, .int .i64 0, .int .u64 0] 67))
  clear c0
  go_enter Try.func19, Try.ntmps19
  go_wp2_with fail
  refine (C1.out).mono ?_
  rintro e W1 ⟨g, c, ys, rfl, hys, ho, hc, hg⟩
  have hgl : w.heap.size < g := by have := (ho.lt g rfl).1; simp at this; omega
  have hb1 := HB0.out.grown hg HB0.out.size (fun k e => by cases e; exact Nat.le_refl _)
  have hc1 := cur_kept hc (World.grownBy_alloc W1 (.cells (numL.map (Value.int .i64)).toArray 3) none) (fun k e => by cases e)
  have hW1 := cur_lt hc
  have C2 := Go.Lib.hid (pick_any w.heap.size 22 24 (W1.alloc (.cells (numL.map (Value.int .i64)).toArray 3)) (hc1.more (by omega)) (by omega) (by omega) (by omega))
  have H1 := Go.Lib.hid (And.intro ((own_lower ho HB0.out.size).alloc (.cells (numL.map (Value.int .i64)).toArray 3)) (And.intro (hb1.alloc hb1.size (.cells (numL.map (Value.int .i64)).toArray 3)) hW1))
  clear ho hc hg hb1 hc1 hW1
  go_wp2_with fail
  refine (C2.out).mono ?_
  rintro e W2 ⟨x, rfl, hx0, hx1, hc2, hg2⟩
  obtain ⟨m, hm5, hm7, hmx⟩ : ∃ m : Nat, 5 ≤ m ∧ m ≤ 7 ∧ (5 : Int) + x.tdiv 11 = (m : Int) := ⟨(5 + x.tdiv 11).toNat, by rw [Int.tdiv_eq_ediv_of_nonneg hx0]; omega, by rw [Int.tdiv_eq_ediv_of_nonneg hx0]; omega, by rw [Int.tdiv_eq_ediv_of_nonneg hx0]; omega⟩
  have C3 := Go.Lib.hid (among_any w.heap.size 24 W1.heap.size 7 (numL.take m) W2 (hc2.more (by omega)) (by omega) (by rw [List.length_take]; show 1 ≤ min m 7; omega) (by rw [List.length_take]; show min m 7 ≤ 1048576; omega) (by have := H1.out.2.2; omega) (fun j y hy => by
    have hj : j < m := by
      have h1 := (List.getElem?_eq_some_iff.1 hy).1
      rw [List.length_take] at h1
      omega
    rw [List.getElem?_take_of_lt hj] at hy
    exact hg2.cell (cell_ints W1 numL 3 j y hy) (by intro e; dsimp only at e; injection e with e; have := H1.out.2.2; omega)))
  have hml : (numL.take m).length = m := by rw [List.length_take]; show min m 7 = m; omega
  rw [hml] at C3
  have H2 := Go.Lib.hid (And.intro (own_mark H1.out.1 hg2 (fun a ha e => by simp only [Value.ownBlock, Option.some.injEq] at ha e; omega)) (H1.out.2.1.grown hg2 H1.out.2.1.size (fun k e => by cases e; exact Nat.le_refl _)))
  have hx11 : IntKind.i64.wrap (x.tdiv 11) = x.tdiv 11 := IntWalk.i64_in _ (by rw [Int.tdiv_eq_ediv_of_nonneg hx0]; omega)
  have hx5 : IntKind.i64.wrap (5 + x.tdiv 11) = (m : Int) := by rw [hmx]; exact IntWalk.i64_in _ (by omega)
  have hm7i : (m : Int) ≤ 7 := by omega
  clear hc2 hg2 hml
  go_wp2_with fail
  refine (C3.out).mono ?_
  rintro e W3 ⟨t, ht, rfl, hc3, hg3⟩
  obtain ⟨ht0, ht8⟩ := num_bd t (List.mem_of_mem_take ht)
  have H3 := Go.Lib.hid (And.intro (own_mark H2.out.1 hg3 (fun a ha e => by simp only [Value.ownBlock, Option.some.injEq] at ha e; omega)) (H2.out.2.grown hg3 H2.out.2.size (fun k e => by cases e; exact Nat.le_refl _)))
  clear hc3 hg3
  go_wp2_with fail
  go_ret2
  exact ⟨_, ys, t, rfl, hys, by omega, by omega, H3.out.1, H3.out.2⟩

end Go.Proofs.Ytmnggcnipjdimab.Draw3C
