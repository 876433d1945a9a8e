/-
  Contracts and plain facts that the laws' texts lean on. Conditions: as each states.
-/
import Derived.Test.YtnhhnffolmgceaaGreatPv21
import Derived.Test.YtnhhnffolmgceaaGreatPv22
import Derived.Test.YtnhhnffolmgceaaGreatPv26
import Derived.BigQuiet
import Derived.Deep.QuietTactic
import Derived.Test.YtnhhnffolmgceaaGreatPv25
import Derived.IntWalk
import Derived.Test.YtnhhnffolmgceaaGreatPv1
import Derived.Maps.AppendAt
import Derived.ArgAppend
import Derived.WalkSmall

section
namespace Go.Proofs.YtnhhnffolmgceaaGreat.DrawOrd2C
open Go.RowKit SeesC IntsC ExactC NumC IterC OrdMath OrderC RankC TextC CurC CurMoreC DrawOrdC AtC

theorem ex_size (t : ByteArray) (a b : Nat) : (t.extract a b).size ≤ t.size := by
  rw [ByteArray.size_extract]; omega

/-- A short text comes back; the cursor has gone on; nothing else has turned. -/
def DrewT (B lim k : Nat) (w : World) (e : Ending) (w' : World) : Prop :=
  ∃ t : ByteArray, t.size ≤ k ∧ e = .returned (.string t) ∧ Cur w' B lim ∧ w.grownBy w' (some B)

/-- A list comes back in memory of the call's own; nothing that was there has turned. -/
def OneL (w : World) (e : Ending) (w' : World) : Prop :=
  ∃ (v : Value) (zs : List Int), e = .returned v ∧ zs.length ≤ 8 ∧ w'.ownsRow w.heap.size 3 1 v zs.length (vals zs) ∧ Below w.heap.size w w'

theorem oneL_of {w W1 W2 : World} {g c : Nat} {zs : List Int} (hb : Below w.heap.size w W1) (hB : w.heap.size < W1.heap.size) (hz : zs.length ≤ 8) (ho : W2.ownsRow W1.heap.size 3 1 (.slice (some ⟨g, 0, none⟩) zs.length c) zs.length (vals zs)) (hg : W1.grownBy W2 (some w.heap.size)) :
    OneL w (.returned (.slice (some ⟨g, 0, none⟩) zs.length c)) W2 :=
  ⟨_, zs, rfl, hz, own_lower ho (by omega), hb.grown hg hb.size (fun k e => by cases e; exact Nat.le_refl _)⟩

/-- Two lists come back in memory of the call's own; nothing that was there has turned. -/
def TwoL (w : World) (e : Ending) (w' : World) : Prop :=
  ∃ (v u : Value) (zs ys : List Int), e = .returned (.tuple #[v, u]) ∧ zs.length ≤ 8 ∧ ys.length ≤ 8 ∧ w'.ownsRow w.heap.size 3 1 v zs.length (vals zs) ∧ w'.ownsRow w.heap.size 3 1 u ys.length (vals ys) ∧ Below w.heap.size w w'

/-- Two numbers come back; nothing that was there has turned. -/
def TwoI (w : World) (e : Ending) (w' : World) : Prop :=
  ∃ a b : Int, e = .returned (.tuple #[.int .i64 a, .int .i64 b]) ∧ -100000 ≤ a ∧ a ≤ 100000 ∧ -100000 ≤ b ∧ b ≤ 100000 ∧ Below w.heap.size w w'

def atL : List Int := [3, 4, 5, 2, 7, 6, 1, 0, 8]
theorem at_bd (t : Int) (h : t ∈ atL) : 0 ≤ t ∧ t ≤ 8 := by
  have : ∀ t ∈ atL, 0 ≤ t ∧ t ≤ 8 := by decide
  exact this t h

set_option maxRecDepth 100000 in
theorem most_any (a b : Int) (W : World) :
    ∃ r, r = max a b ∧ Calls Tryz.prog 65 #[.int .i64 a, .int .i64 b] W fun e w' => e = .returned (.int .i64 r) ∧ W = w' := by
  refine ⟨max a b, rfl, ?_⟩
  by_cases h : b < a
  · have HM : Hid (max a b = a) := Go.Lib.hid (by omega)
    go_enter Tryz.func65, Tryz.ntmps65
    go_wp2
    go_ret
    exact ⟨by rw [HM.out]; rfl, rfl⟩
  · have HM : Hid (max a b = b) := Go.Lib.hid (by omega)
    go_enter Tryz.func65, Tryz.ntmps65
    go_wp2
    go_ret
    exact ⟨by rw [HM.out]; rfl, rfl⟩

/-- A short text comes back; nothing that was there has turned. -/
def OneT (k : Nat) (w : World) (e : Ending) (w' : World) : Prop :=
  ∃ t : ByteArray, t.size ≤ k ∧ e = .returned (.string t) ∧ Below w.heap.size w w'

end Go.Proofs.YtnhhnffolmgceaaGreat.DrawOrd2C

end

section
namespace Go.Proofs.YtnhhnffolmgceaaGreat.Draw9C
open Go.RowKit SeesC IntsC ExactC CurC CurMoreC DrawOrdC DrawOrd2C
set_option linter.unusedVariables false

def nineL : List Int := [4, 3, 5, 2, 1, 6, 0, 7, -1]
theorem nine_bd (k : Nat) (t : Int) (h : t ∈ nineL.take k) : -1 ≤ t ∧ t ≤ 7 := by
  have : ∀ t ∈ nineL, -1 ≤ t ∧ t ≤ 7 := by decide
  exact this t (List.mem_of_mem_take h)
theorem nine_cells (w : World) (j : Nat) (x : Int) (h : nineL[j]? = some x) : (w.alloc (.cells (nineL.map (Value.int .i64)).toArray 3)).cell? ⟨w.heap.size, j, none⟩ = some (.int .i64 x) := cell_ints w nineL 3 j x h

def quL : List Int := [2, 3, 1, 4, 6, 0, 7]
theorem qu_bd (k : Nat) (t : Int) (h : t ∈ quL.take k) : -1 ≤ t ∧ t ≤ 7 := by
  have : ∀ t ∈ quL, -1 ≤ t ∧ t ≤ 7 := by decide
  exact this t (List.mem_of_mem_take h)
theorem qu_cells (w : World) (j : Nat) (x : Int) (h : quL[j]? = some x) : (w.alloc (.cells (quL.map (Value.int .i64)).toArray 3)).cell? ⟨w.heap.size, j, none⟩ = some (.int .i64 x) := cell_ints w quL 3 j x h

def stL : List Int := [2, 1, 3, 4, 0, 5]
theorem st_bd (k : Nat) (t : Int) (h : t ∈ stL.take k) : -1 ≤ t ∧ t ≤ 7 := by
  have : ∀ t ∈ stL, -1 ≤ t ∧ t ≤ 7 := by decide
  exact this t (List.mem_of_mem_take h)
theorem st_cells (w : World) (j : Nat) (x : Int) (h : stL[j]? = some x) : (w.alloc (.cells (stL.map (Value.int .i64)).toArray 3)).cell? ⟨w.heap.size, j, none⟩ = some (.int .i64 x) := cell_ints w stL 3 j x h

set_option maxRecDepth 100000 in
set_option maxHeartbeats 1000000 in
/-- A number of numbers to draw comes back; the cursor has gone on; nothing else has turned. -/
theorem drawn9_any (B lim : Nat) (w : World) (h : Cur w B lim) (hl : lim ≤ 1000000) (hB : B < w.heap.size) :
    Calls Tryz.prog 24 #[.pointer (some ⟨B, 0, none⟩)] w fun e w' => ∃ t : Int, -1 ≤ t ∧ t ≤ 7 ∧ e = .returned (.int .i64 t) ∧ Cur w' B (lim + 4) ∧ w.grownBy w' (some B) := by
  have H0 := Go.Lib.hid (And.intro h (And.intro hB trivial))
  clear h hB
  go_enter Tryz.func24, Tryz.ntmps24
  have CP := Go.Lib.hid (pick_any B (lim) 24 (w.alloc (.cells (nineL.map (Value.int .i64)).toArray 3)) (cur_kept H0.out.1 (World.grownBy_alloc _ _ none) (fun k e => by cases e)) (by omega) (by omega) (by omega))
  have HCE := Go.Lib.hid (nine_cells w)
  have HGA := Go.Lib.hid (World.grownBy_alloc w (.cells (nineL.map (Value.int .i64)).toArray 3) (some B))
  go_wp2_with fail
  refine (CP.out).mono ?_
  rintro e w2 ⟨x, rfl, hx0, hx1, hc2, hg2⟩
  have HG2 := Go.Lib.hid (And.intro hc2 (CurC.grown_trans HGA.out hg2))
  have HCE2 := Go.Lib.hid (fun (j : Nat) (y : Int) (hj : nineL[j]? = some y) => hg2.cell (HCE.out j y hj) (fun e => by have := H0.out.2.1; have e2 := Option.some.inj e; simp only at e2; omega))
  clear hc2 hg2 CP HCE HGA
  rcases (show x.tdiv 8 = 0 ∨ x.tdiv 8 = 1 ∨ x.tdiv 8 = 2 by rw [Int.tdiv_eq_ediv_of_nonneg hx0]; omega) with hyd | hyd | hyd
  · have CA := Go.Lib.hid (among_any B (lim + 2) w.heap.size 9 (nineL.take 6) w2 HG2.out.1 (by omega) (by decide) (by decide) (by have := H0.out.2.1; omega) (fun j y hy => HCE2.out j y (by
      rw [List.getElem?_take] at hy
      split at hy
      · exact hy
      · cases hy)))
    go_wp2_with fail
    refine (CA.out).mono ?_
    rintro e w3 ⟨t, ht, rfl, hc3, hg3⟩
    have hbd := nine_bd _ t ht
    have H3 := Go.Lib.hid (And.intro hc3 (CurC.grown_trans HG2.out.2 hg3))
    clear ht hc3 hg3 CA
    go_wp2_with fail
    go_ret
    exact ⟨t, hbd.1, hbd.2, rfl, H3.out.1, H3.out.2⟩
  · have CA := Go.Lib.hid (among_any B (lim + 2) w.heap.size 9 (nineL.take 7) w2 HG2.out.1 (by omega) (by decide) (by decide) (by have := H0.out.2.1; omega) (fun j y hy => HCE2.out j y (by
      rw [List.getElem?_take] at hy
      split at hy
      · exact hy
      · cases hy)))
    go_wp2_with fail
    refine (CA.out).mono ?_
    rintro e w3 ⟨t, ht, rfl, hc3, hg3⟩
    have hbd := nine_bd _ t ht
    have H3 := Go.Lib.hid (And.intro hc3 (CurC.grown_trans HG2.out.2 hg3))
    clear ht hc3 hg3 CA
    go_wp2_with fail
    go_ret
    exact ⟨t, hbd.1, hbd.2, rfl, H3.out.1, H3.out.2⟩
  · have CA := Go.Lib.hid (among_any B (lim + 2) w.heap.size 9 (nineL.take 8) w2 HG2.out.1 (by omega) (by decide) (by decide) (by have := H0.out.2.1; omega) (fun j y hy => HCE2.out j y (by
      rw [List.getElem?_take] at hy
      split at hy
      · exact hy
      · cases hy)))
    go_wp2_with fail
    refine (CA.out).mono ?_
    rintro e w3 ⟨t, ht, rfl, hc3, hg3⟩
    have hbd := nine_bd _ t ht
    have H3 := Go.Lib.hid (And.intro hc3 (CurC.grown_trans HG2.out.2 hg3))
    clear ht hc3 hg3 CA
    go_wp2_with fail
    go_ret
    exact ⟨t, hbd.1, hbd.2, rfl, H3.out.1, H3.out.2⟩

/-- Two small numbers come back; nothing that was there has turned. -/
def TwoN (w : World) (e : Ending) (w' : World) : Prop := ∃ a b : Int, e = .returned (.tuple #[.int .i64 a, .int .i64 b]) ∧ -1 ≤ a ∧ a ≤ 7 ∧ -1 ≤ b ∧ b ≤ 7 ∧ Below w.heap.size w w'

set_option maxRecDepth 100000 in
set_option maxHeartbeats 1000000 in
theorem drawCQ_any (v : Value) (n : Nat) (zs : List Int) (w : World) (hv : Sees w v n (zs.map (Value.int .u8))) (hz : ∀ z ∈ zs, 0 ≤ z ∧ z ≤ 255) (hn : n ≤ 65536) :
    Calls Tryz.prog 14 #[v] w fun e w' => TwoN w e w' := by
  have c0 := cur_made hv hz hn
  obtain ⟨_, a, cap, rfl, _, _⟩ := hv
  have HB0 := Go.Lib.hid ((Below.refl w.heap.size w).alloc (Nat.le_refl _) (.cells #[.slice a n cap, .int .i64 0, .int .u64 0] 44))
  have C1 := Go.Lib.hid (drawn9_any w.heap.size 0 (w.alloc (.cells #[.slice a n cap, .int .i64 0, .int .u64 0] 44)) c0 (by omega) (by simp))
  clear c0
  go_enter Tryz.func14, Tryz.ntmps14
  go_wp2_with fail
  refine (C1.out).mono ?_
  rintro e W1 ⟨t1, ht0, ht7, rfl, hc1, hg1⟩
  obtain ⟨B, hB⟩ : ∃ B, w.heap.size = B := ⟨_, rfl⟩
  have hs1 := World.grownBy.size hg1
  rw [World.size_alloc] at hs1
  have H0 : Hid (Cur W1 B (0 + 4) ∧ B < W1.heap.size ∧ Below B w W1) := Go.Lib.hid (by
    rw [← hB]
    exact ⟨hc1, by omega, HB0.out.grown hg1 HB0.out.size (fun k e => by cases e; exact Nat.le_refl _)⟩)
  have HBS := Go.Lib.hid hB
  rw [hB]
  clear hc1 hg1 hs1 hB C1
  have CP := Go.Lib.hid (pick_any B (0 + 4) 24 (W1.alloc (.cells (quL.map (Value.int .i64)).toArray 3)) (cur_kept H0.out.1 (World.grownBy_alloc _ _ none) (fun k e => by cases e)) (by omega) (by omega) (by omega))
  have HCE := Go.Lib.hid (qu_cells W1)
  have HGA := Go.Lib.hid (World.grownBy_alloc W1 (.cells (quL.map (Value.int .i64)).toArray 3) (some B))
  go_wp2_with fail
  refine (CP.out).mono ?_
  rintro e w2 ⟨x, rfl, hx0, hx1, hc2, hg2⟩
  have HG2 := Go.Lib.hid (And.intro hc2 (CurC.grown_trans HGA.out hg2))
  have HCE2 := Go.Lib.hid (fun (j : Nat) (y : Int) (hj : quL[j]? = some y) => hg2.cell (HCE.out j y hj) (fun e => by have := H0.out.2.1; have e2 := Option.some.inj e; simp only at e2; omega))
  clear hc2 hg2 CP HCE HGA
  rcases (show x.tdiv 11 = 0 ∨ x.tdiv 11 = 1 ∨ x.tdiv 11 = 2 by rw [Int.tdiv_eq_ediv_of_nonneg hx0]; omega) with hyd | hyd | hyd
  · have CA := Go.Lib.hid (among_any B (0 + 4 + 2) W1.heap.size 7 (quL.take 5) w2 HG2.out.1 (by omega) (by decide) (by decide) (by have := H0.out.2.1; omega) (fun j y hy => HCE2.out j y (by
      rw [List.getElem?_take] at hy
      split at hy
      · exact hy
      · cases hy)))
    go_wp2_with fail
    refine (CA.out).mono ?_
    rintro e w3 ⟨t, ht, rfl, hc3, hg3⟩
    have hbd := qu_bd _ t ht
    have H3 := Go.Lib.hid (And.intro hc3 (CurC.grown_trans HG2.out.2 hg3))
    clear ht hc3 hg3 CA
    go_wp2_with fail
    go_ret2
    exact ⟨t1, t, rfl, ht0, ht7, hbd.1, hbd.2, by rw [HBS.out]; exact H0.out.2.2.grown H3.out.2 (Nat.le_of_lt H0.out.2.1) (fun k e => by cases e; exact Nat.le_refl _)⟩
  · have CA := Go.Lib.hid (among_any B (0 + 4 + 2) W1.heap.size 7 (quL.take 6) w2 HG2.out.1 (by omega) (by decide) (by decide) (by have := H0.out.2.1; omega) (fun j y hy => HCE2.out j y (by
      rw [List.getElem?_take] at hy
      split at hy
      · exact hy
      · cases hy)))
    go_wp2_with fail
    refine (CA.out).mono ?_
    rintro e w3 ⟨t, ht, rfl, hc3, hg3⟩
    have hbd := qu_bd _ t ht
    have H3 := Go.Lib.hid (And.intro hc3 (CurC.grown_trans HG2.out.2 hg3))
    clear ht hc3 hg3 CA
    go_wp2_with fail
    go_ret2
    exact ⟨t1, t, rfl, ht0, ht7, hbd.1, hbd.2, by rw [HBS.out]; exact H0.out.2.2.grown H3.out.2 (Nat.le_of_lt H0.out.2.1) (fun k e => by cases e; exact Nat.le_refl _)⟩
  · have CA := Go.Lib.hid (among_any B (0 + 4 + 2) W1.heap.size 7 (quL.take 7) w2 HG2.out.1 (by omega) (by decide) (by decide) (by have := H0.out.2.1; omega) (fun j y hy => HCE2.out j y (by
      rw [List.getElem?_take] at hy
      split at hy
      · exact hy
      · cases hy)))
    go_wp2_with fail
    refine (CA.out).mono ?_
    rintro e w3 ⟨t, ht, rfl, hc3, hg3⟩
    have hbd := qu_bd _ t ht
    have H3 := Go.Lib.hid (And.intro hc3 (CurC.grown_trans HG2.out.2 hg3))
    clear ht hc3 hg3 CA
    go_wp2_with fail
    go_ret2
    exact ⟨t1, t, rfl, ht0, ht7, hbd.1, hbd.2, by rw [HBS.out]; exact H0.out.2.2.grown H3.out.2 (Nat.le_of_lt H0.out.2.1) (fun k e => by cases e; exact Nat.le_refl _)⟩

/-- A number of numbers comes back; nothing that was there has turned. -/
def OneN (w : World) (e : Ending) (w' : World) : Prop := ∃ a : Int, e = .returned (.int .i64 a) ∧ -1 ≤ a ∧ a ≤ 7 ∧ Below w.heap.size w w'

set_option maxRecDepth 100000 in
theorem drawCS_any (v : Value) (n : Nat) (zs : List Int) (w : World) (hv : Sees w v n (zs.map (Value.int .u8))) (hz : ∀ z ∈ zs, 0 ≤ z ∧ z ≤ 255) (hn : n ≤ 65536) :
    Calls Tryz.prog 5 #[v] w fun e w' => OneN w e w' := by
  have c0 := cur_made hv hz hn
  obtain ⟨_, a, cap, rfl, _, _⟩ := hv
  have HB0 := Go.Lib.hid ((Below.refl w.heap.size w).alloc (Nat.le_refl _) (.cells #[.slice a n cap, .int .i64 0, .int .u64 0] 44))
  have C1 := Go.Lib.hid (drawn9_any w.heap.size 0 (w.alloc (.cells #[.slice a n cap, .int .i64 0, .int .u64 0] 44)) c0 (by omega) (by simp))
  clear c0
  go_enter Tryz.func5, Tryz.ntmps5
  go_wp2_with fail
  refine (C1.out).mono ?_
  rintro e W1 ⟨t1, ht0, ht7, rfl, hc1, hg1⟩
  have H := Go.Lib.hid (HB0.out.grown hg1 HB0.out.size (fun k e => by cases e; exact Nat.le_refl _))
  clear hc1 hg1
  go_wp2_with fail
  go_ret
  exact ⟨t1, rfl, ht0, ht7, H.out⟩

end Go.Proofs.YtnhhnffolmgceaaGreat.Draw9C

end

section
namespace Go.Proofs.YtnhhnffolmgceaaGreat.CutStC
open Go.RowKit SeesC IntsC ExactC NumC IterC OrdMath WordMath OrdFacts InC OrderC AtC EndsM SweepM StackM

theorem take_snoc {st : List Int} {k : Nat} {p : Int} (hk : k < st.length) (h : st.getD k 0 = p) : st.take (k + 1) = st.take k ++ [p] := by
  rw [List.take_succ_eq_append_getElem hk, ← h]
  simp [hk]

end Go.Proofs.YtnhhnffolmgceaaGreat.CutStC

end

section
namespace Go.Proofs.YtnhhnffolmgceaaGreat.SweepIC
open Go.RowKit SeesC WordsC IntsC ExactC NumC IterC OrdMath WordMath OrdFacts InC OrderC AtC EndsM SweepM StackM CutStC

theorem sweep_sent {zs : List Int} {y : Int} (h : ∀ z ∈ zs, z < y) : (swTo (zs ++ [y]) (zs.length + 1)).1 = sweepL zs := by
  unfold swTo
  rw [List.take_of_length_le (by simp), List.foldl_append]
  obtain ⟨o, s, hr⟩ : ∃ o s, zs.foldl swF ([], []) = (o, s) := ⟨_, _, rfl⟩
  rw [hr]
  have hs : ∀ z ∈ s, z < y := by
    intro z hz
    have hp := sw_perm zs [] []
    rw [hr] at hp
    have h9 : z ∈ o ++ s := List.mem_append.2 (.inr hz)
    have := hp.mem_iff.1 h9
    exact h z (by simpa using this)
  show o ++ popd s y = _
  rw [popd_all hs]
  unfold sweepL
  rw [hr]

theorem drop_popd {st : List Int} {x : Int} {k : Nat} (h : st.take k = belw st x) : (st.drop k).reverse = popd st x := by
  have h1 := parts st x
  rw [← h] at h1
  have h2 : st.take k ++ (popd st x).reverse = st.take k ++ st.drop k := by rw [h1, List.take_append_drop]
  have h3 := List.append_cancel_left h2
  rw [← h3, List.reverse_reverse]

theorem setL_drop (st : List Int) (k : Nat) (hk : k ≤ st.length) : setL (vals st) k (vals (st.drop k).reverse) = vals (st.take k ++ (st.drop k).reverse) := by
  rw [setL_is _ _ _ (by simp; omega)]
  have e : (vals st).drop (k + (vals (st.drop k).reverse).length) = [] := List.drop_of_length_le (by simp; omega)
  rw [e, List.append_nil]
  unfold vals
  rw [← List.map_take, List.map_append]

theorem rev_set (st : List Int) (x : Int) (k m g c o' B : Nat) (w : World) (hst : st.length = m) (hkm : k ≤ m) (ho : k < m → o' = k) (htk : st.take k = belw st x) (hown : w.ownsRow B 3 1 (.slice (some ⟨g, 0, none⟩) m c) m (vals st)) :
    w.grownBy (w.setCells g o' (((st.drop k).take (m - k)).reverse.map (Value.int .i64))) (some g) ∧ (∀ j u, (vals (popd st x))[j]? = some u → (w.setCells g o' (((st.drop k).take (m - k)).reverse.map (Value.int .i64))).cell? ((⟨g, o', none⟩ : Addr).add j) = some u) := by
  have e0 : (st.drop k).take (m - k) = st.drop k := List.take_of_length_le (by simp; omega)
  have e1 := drop_popd htk
  rw [e0]
  by_cases h : k < m
  · obtain rfl := ho h
    have h1 := own_setCells (vals (st.drop o').reverse) w o' _ hown
    rw [setL_drop st o' (by omega)] at h1
    refine ⟨h1.2, fun j u hu => ?_⟩
    have h2 := h1.1.cells (g := g) rfl (o' + j) u (by
      have e9 : (st.take o').length = o' := by rw [List.length_take]; omega
      rw [show vals (st.take o' ++ (st.drop o').reverse) = vals (st.take o') ++ vals (st.drop o').reverse by simp, List.getElem?_append_right (by rw [vals_len, e9]; omega), vals_len, e9, Nat.add_sub_cancel_left, e1]
      exact hu)
    have e10 : ((⟨g, 0, none⟩ : Addr).add (o' + j)) = ((⟨g, o', none⟩ : Addr).add j) := by
      unfold Addr.add
      by_cases h0 : o' + j = 0
      · obtain ⟨rfl, rfl⟩ : o' = 0 ∧ j = 0 := by omega
        rfl
      · rw [if_neg h0]
        by_cases hj : j = 0
        · subst hj; rw [if_pos rfl]; simp
        · rw [if_neg hj]; simp
    rw [e10] at h2
    exact h2
  · have hk : k = m := by omega
    have e2 : st.drop k = [] := List.drop_of_length_le (by omega)
    rw [e2] at e1
    rw [e2, ← e1]
    exact ⟨⟨rfl, rfl, rfl, Nat.le_refl _, fun _ _ _ => rfl⟩, fun j u hu => by simp at hu⟩

end Go.Proofs.YtnhhnffolmgceaaGreat.SweepIC

end
