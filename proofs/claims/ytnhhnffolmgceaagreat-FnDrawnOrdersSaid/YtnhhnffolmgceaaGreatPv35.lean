/-
  Contracts and plain facts that the laws' texts lean on. Conditions: as each states.
-/
import Derived.Test.YtnhhnffolmgceaaGreatPv25
import Derived.Test.YtnhhnffolmgceaaGreatPv20
import Derived.Test.YtnhhnffolmgceaaGreatPv24
import Derived.Test.YtnhhnffolmgceaaGreatPv21
import Derived.Test.YtnhhnffolmgceaaGreatPv7
import Derived.Test.YtnhhnffolmgceaaGreatPv10
import Derived.Test.YtnhhnffolmgceaaGreatPv2
import Derived.Test.YtnhhnffolmgceaaGreatPv1
import Derived.Maps.Views
import Derived.Maps.OwnSet

section
namespace Go.Proofs.YtnhhnffolmgceaaGreat.DrawPatsC
open Go.RowKit SeesC IntsC ExactC OrdMath OrderC CurC CurMoreC DrawOrdC AtC Draw3C ListsC ListsEC ListsFC LLC RagMarkC RagResC RRC AppendTwoC SameC RRVC Own1C
set_option linter.unusedVariables false

theorem rr_mark {w w' : World} {base : Nat} {v : Value} {gs : List (Nat × Nat)} {L : List (List Int)} {row : Option Nat} (h : RR w base v gs L) (hg : w.grownBy w' row) (hB : ∀ q, row = some q → q < base) : RR w' base v gs L :=
  ⟨h.1, own_mark h.2.1 hg (fun a ha e => by have h1 := (own_block_lt h.2.1 ha).1; have h2 := hB a e; omega),
    fun i hi => own_mark (h.2.2.1 i hi) hg (fun a ha e => by have h1 := (own_block_lt (h.2.2.1 i hi) ha).1; have h2 := hB a e; omega), h.2.2.2⟩

/-- A row more, that has just been drawn. -/
theorem rr_push2 {X X2 X3 : World} {base N B : Nat} {v v5 : Value} {gs : List (Nat × Nat)} {L : List (List Int)} {q : List Int} {p : Nat × Nat} {o : Obj}
    (hN : L.length = N) (h : RR X base v gs L) (hB : B < base) (hbX : base ≤ X.heap.size) (ho : X2.ownsRow X.heap.size 3 1 (sl q.length p) q.length (vals q)) (hg2 : X.grownBy X2 (some B))
    (ho5 : X3.ownsRow base 36 1 v5 (N + 1) (rowsOf L gs ++ [sl q.length p])) (hg : (X2.alloc o).grownBy X3 v.ownBlock) : RR X3 base v5 (gs ++ [p]) (L ++ [q]) := by
  have h2 := rr_mark h hg2 (fun k e => by cases e; exact hB)
  have h3 : RR (X2.alloc o) base v gs L := h2.kept ((Below.refl X2.heap.size X2).alloc (Nat.le_refl _) o)
  exact rr_snoc (q := q) hN h3 ((own_lower ho hbX).alloc o) (fun i hi => by have h1 := (h.lt (i := i) (by omega)).2; have h2 := (own_block_lt ho (q := p.1) rfl).1; omega) ho5 hg

def mL : List Int := [1, 2, 1, 3, 0, 4, 5]
theorem m_bd : ∀ t ∈ mL, 0 ≤ t ∧ t ≤ 5 := by decide

def DrewLL (B lim : Nat) (w : World) (e : Ending) (w' : World) : Prop :=
  ∃ (g c N : Nat) (L : List (List Int)), e = .returned (.slice (some ⟨g, 0, none⟩) N c) ∧ L.length = N ∧ N ≤ 5 ∧ (∀ l ∈ L, l.length ≤ 8) ∧ Rag w' w.heap.size (.slice (some ⟨g, 0, none⟩) N c) L ∧ Cur w' B lim ∧ w.grownBy w' (some B)

set_option maxRecDepth 100000 in
set_option maxHeartbeats 4000000 in
theorem patterns3_any (B lim : Nat) (w : World) (h : Cur w B lim) (hl : lim ≤ 800000) :
    Calls Tryz.prog 52 #[.pointer (some ⟨B, 0, none⟩)] w fun e w' => DrewLL B (lim + 200) w e w' := by
  obtain ⟨j0, hj, hy0, hy1, hy2⟩ := info_parts ListsFC.infoL
  have hB := cur_lt h
  have hc0 := cur_kept h (World.grownBy_alloc w (.cells #[] 36) none) (fun k e => by cases e)
  have hc1 := cur_kept hc0 (World.grownBy_alloc _ (.cells (mL.map (Value.int .i64)).toArray 3) none) (fun k e => by cases e)
  have C1 := Go.Lib.hid (pick_any B lim 24 ((w.alloc (.cells #[] 36)).alloc (.cells (mL.map (Value.int .i64)).toArray 3)) hc1 (by omega) (by omega) (by omega))
  have R0 : RR (w.alloc (.cells #[] 36)) w.heap.size (.slice (some ⟨w.heap.size, 0, none⟩) 0 0) [] [] :=
    ⟨rfl, World.ownsRow_made _ _ _ (Nat.le_refl _) (by unfold maxLen; omega) rfl, fun i hi => absurd hi (by simp), by simp⟩
  have R1 : RR ((w.alloc (.cells #[] 36)).alloc (.cells (mL.map (Value.int .i64)).toArray 3)) w.heap.size (.slice (some ⟨w.heap.size, 0, none⟩) 0 0) [] [] := R0.kept ((Below.refl _ _).alloc (Nat.le_refl _) _)
  have G1 : w.grownBy ((w.alloc (.cells #[] 36)).alloc (.cells (mL.map (Value.int .i64)).toArray 3)) (some B) :=
    grown_own (World.grownBy_alloc w (.cells #[] 36) (some B)) (World.grownBy_alloc _ _ none) (fun x e => by cases e)
  have HCE := Go.Lib.hid (fun (j : Nat) (y : Int) (hy : mL[j]? = some y) => cell_ints (w.alloc (.cells #[] 36)) mL 3 j y hy)
  have H0 := Go.Lib.hid (And.intro R1 (And.intro G1 hB))
  clear h hc0 hc1 R0 R1 G1
  go_enter Tryz.func52, Tryz.ntmps52
  go_wp2_with fail
  refine (C1.out).mono ?_
  rintro e W2 ⟨x, rfl, hx0, hx1, hc2, hg2⟩
  obtain ⟨m, hm5, hm7, hmx⟩ : ∃ m : Nat, 6 ≤ m ∧ m ≤ 7 ∧ (6 : Int) + x.tdiv 23 = (m : Int) := ⟨(6 + x.tdiv 23).toNat, by rw [Int.tdiv_eq_ediv_of_nonneg hx0]; omega, by rw [Int.tdiv_eq_ediv_of_nonneg hx0]; omega, by rw [Int.tdiv_eq_ediv_of_nonneg hx0]; omega⟩
  have C3 := Go.Lib.hid (among_any B (lim + 2) (w.alloc (.cells #[] 36)).heap.size 7 (mL.take m) W2 hc2 (by omega) (by rw [List.length_take]; show 1 ≤ min m 7; omega) (by rw [List.length_take]; show min m 7 ≤ 1048576; omega) (by rw [World.size_alloc]; omega) (fun j y hy => by
    have hj : j < m := by
      have h1 := (List.getElem?_eq_some_iff.1 hy).1
      rw [List.length_take] at h1
      omega
    rw [List.getElem?_take_of_lt hj] at hy
    exact hg2.cell (HCE.out j y hy) (by intro e; dsimp only at e; injection e with e; rw [World.size_alloc] at e; omega)))
  rw [World.size_alloc] at C3
  have hml : (mL.take m).length = m := by rw [List.length_take]; show min m 7 = m; omega
  rw [hml] at C3
  have H2 := Go.Lib.hid (And.intro (rr_mark H0.out.1 hg2 (fun k e => by cases e; exact H0.out.2.2)) (IntsC.grown_trans H0.out.2.1 hg2))
  have hx11 : IntKind.i64.wrap (x.tdiv 23) = x.tdiv 23 := IntWalk.i64_in _ (by rw [Int.tdiv_eq_ediv_of_nonneg hx0]; omega)
  have hx5 : IntKind.i64.wrap (6 + x.tdiv 23) = (m : Int) := by rw [hmx]; exact IntWalk.i64_in _ (by omega)
  have hm7i : (m : Int) ≤ 7 := by omega
  clear hc2 hg2 hml hmx HCE
  go_wp2_with fail
  refine (C3.out).mono ?_
  rintro e W3 ⟨t, ht, rfl, hc3, hg3⟩
  obtain ⟨ht0, ht5⟩ := m_bd t (List.mem_of_mem_take ht)
  obtain ⟨N, rfl⟩ : ∃ N : Nat, t = (N : Int) := ⟨t.toNat, by omega⟩
  have hN5 : N ≤ 5 := by omega
  have H3 := Go.Lib.hid (And.intro (rr_mark H2.out.1 hg3 (fun k e => by cases e; exact H0.out.2.2)) (And.intro (show Cur W3 B (lim + 4 + 30 * 0) from hc3.more (by omega)) (IntsC.grown_trans H2.out.2 hg3)))
  have HB := Go.Lib.hid H0.out.2.2
  clear ht hc3 hg3 H0 H2 C1 C3 hx0 hx1 hx11 hx5 hm7i hm5 hm7 hB ht0 ht5
  go_wp2_with fail
  go_loopw [3, 4] (fun ov nv wr => ∃ (j q g c : Nat) (gs : List (Nat × Nat)) (L : List (List Int)), nv = .int .i64 q ∧ ov = .slice (some ⟨g, 0, none⟩) j c ∧ j + q = N ∧ Hid (L.length = j ∧ RR wr w.heap.size (.slice (some ⟨g, 0, none⟩) j c) gs L ∧ Cur wr B (lim + 4 + 30 * j) ∧ w.grownBy wr (some B) ∧ ∀ l ∈ L, l.length ≤ 8)) (fun _ n _ => (intOf n).toNat)
  case atStart => exact ⟨0, N, w.heap.size, 0, [], [], rfl, rfl, by omega, Go.Lib.hid ⟨rfl, H3.out.1, H3.out.2.1, H3.out.2.2, fun l hl => by simp at hl⟩⟩
  case round =>
    obtain ⟨j, q, g, c, gs, L, rfl, rfl, hjq, HX⟩ := hrel
    clear H3
    by_cases hq : 0 < q
    · have hqi : (0 : Int) < (q : Int) := by omega
      have C4 := Go.Lib.hid (pattern3_any B (lim + 4 + 30 * j) wr HX.out.2.2.1 (by omega))
      go_wp2_with fail
      refine (C4.out).mono ?_
      rintro e W5 ⟨g2, c2, ys, rfl, hys, ho5, hc5, hg5⟩
      have hsz := World.grownBy.size HX.out.2.2.2.1
      have hsz2 := World.grownBy.size hg5
      have hot : W5.ownsRow w.heap.size 36 1 (.slice (some ⟨g, 0, none⟩) j c) j (rowsOf L gs) := by
        have h := (rr_mark HX.out.2.1 hg5 (fun k e => by cases e; exact HB.out)).2.1
        rw [HX.out.1] at h
        exact h
      have H5 := Go.Lib.hid (And.intro hot (And.intro ho5 (And.intro hc5 (And.intro hg5 hys))))
      obtain ⟨m, hm⟩ : ∃ m, ys.length = m := ⟨_, rfl⟩
      rw [hm]
      have HM := Go.Lib.hid hm
      clear hot ho5 hc5 hg5 hys C4 hm
      go_wp2_with (at_builtin; refine wpList_append_own _ rfl _ _ 32 rfl w.heap.size 36 j0 (.slice none 0 0) 1 24 Tryz.underlying32 hj hy0 hy1 hy2 rfl (by decide) (.slice (some ⟨g, 0, none⟩) j c) j (rowsOf L gs) rfl (H5.out.1.alloc _) ⟨W5.heap.size, 0, none⟩ 1 1 [.slice (some ⟨g2, 0, none⟩) m c2] rfl rfl (cell_one_new _ _ _) (fun x hx => by simp at hx; subst hx; rfl) (by unfold maxLen; omega) (by omega) (by simp; omega) ?_; intro v' w3 hown3 hgrow3 hnil3)
      obtain ⟨g3, c3, rfl⟩ := ownsRow_succ hown3
      have hps := rr_push2 (q := ys) (p := (g2, c2)) HX.out.1 HX.out.2.1 HB.out hsz H5.out.2.1 H5.out.2.2.2.1 (by rw [HM.out]; exact hown3) hgrow3
      have hgB := (own_block_lt HX.out.2.1.2.1 (q := g) rfl).1
      have hc6 := cur_kept (cur_kept H5.out.2.2.1 (World.grownBy_alloc W5 _ none) (fun k e => by cases e)) hgrow3 (fun k e => by cases e; have h1 := HB.out; show B < g; omega)
      have hg6 := grown_own (grown_own (IntsC.grown_trans HX.out.2.2.2.1 H5.out.2.2.2.1) (World.grownBy_alloc W5 _ none) (fun x e => by cases e)) hgrow3 (fun x e => by cases e; exact hgB)
      have H6 := Go.Lib.hid (And.intro (show (L ++ [ys]).length = j + 1 by rw [List.length_append, HX.out.1]; rfl) (And.intro hps (And.intro (show Cur w3 B (lim + 4 + 30 * (j + 1)) from hc6.more (by omega)) (And.intro hg6 (show ∀ l ∈ L ++ [ys], l.length ≤ 8 from fun l hl => by
        rcases List.mem_append.1 hl with h | h
        · exact HX.out.2.2.2.2 l h
        · simp at h; subst h; exact H5.out.2.2.2.2)))))
      clear hown3 hgrow3 hnil3 hps hgB hc6 hg6
      obtain ⟨q', rfl⟩ : ∃ q', q = q' + 1 := ⟨q - 1, by omega⟩
      go_wp2
      go_roundw
      case rel => exact ⟨j + 1, q', g3, c3, _, _, by go_num, rfl, by omega, H6⟩
      case measure => simp [intOf] <;> omega
    · obtain rfl : q = 0 := by omega
      have hqi : ¬ (0 : Int) < ((0 : Nat) : Int) := by omega
      go_wp2
      go_ret
      exact ⟨g, c, j, L, rfl, HX.out.1, by omega, HX.out.2.2.2.2, rr_rag HX.out.2.1, HX.out.2.2.1.more (by omega), HX.out.2.2.2.1⟩

end Go.Proofs.YtnhhnffolmgceaaGreat.DrawPatsC

end

section
namespace Go.Proofs.YtnhhnffolmgceaaGreat.ConfIC
open Go.RowKit SeesC IntsC ExactC OrdMath BesM ListsC SameC AppendTwoC MinMaxC
set_option linter.unusedVariables false

theorem infoA2 : (Tryz.prog.info? 25).map (fun i => (i.zero, i.size, i.bytes)) = some (some (.agg #[.int .i64 0, .int .i64 0]), 2, 16) := by kernel_rfl

/-- Pairs, cell by cell. -/
def prv (C : List (Nat × Nat)) : List Value := C.flatMap fun p => [.int .i64 (p.1 : Int), .int .i64 (p.2 : Int)]

theorem prv_append (A B : List (Nat × Nat)) : prv (A ++ B) = prv A ++ prv B := by unfold prv; exact List.flatMap_append

theorem prv_len (C : List (Nat × Nat)) : (prv C).length = 2 * C.length := by
  induction C with
  | nil => rfl
  | cons p C ih =>
    have e : prv (p :: C) = [.int .i64 (p.1 : Int), .int .i64 (p.2 : Int)] ++ prv C := by unfold prv; rfl
    rw [e, List.length_append, ih]; simp; omega

theorem rowC_small (zs : List Int) (i : Nat) : ∀ j, j ≤ i + 1 → rowC zs i j = []
  | 0, _ => rfl
  | j + 1, h => by
    unfold rowC
    rw [if_neg (by rintro ⟨h1, _⟩; omega)]
    exact rowC_small zs i j (by omega)

theorem two_new (w : World) (x y : Value) (t : TypeId) : ∀ (j : Nat) (u : Value), [x, y][j]? = some u → (w.alloc (.cells #[x, y] t)).cell? ((⟨w.heap.size, 0, none⟩ : Addr).add j) = some u := by
  intro j u hu
  have hn := World.alloc_heap_new w (.cells #[x, y] t)
  have hj : j = 0 ∨ j = 1 := by
    have := (List.getElem?_eq_some_iff.1 hu).1
    simp at this; omega
  rcases hj with rfl | rfl <;> cases hu <;> (show World.cell? _ ⟨w.heap.size, _, none⟩ = _; unfold World.cell?; simp only [hn]; rfl)

/-- The rows that are there behind some rounds. -/
def CfW (zs : List Int) (W : World) (L : List (Nat × Nat)) (N g c : Nat) (wr : World) : Prop :=
  L.length = N ∧ wr.ownsRow W.heap.size 25 2 (.slice (some ⟨g, 0, none⟩) N c) N (prv L) ∧ Below W.heap.size W wr

end Go.Proofs.YtnhhnffolmgceaaGreat.ConfIC

end

section
namespace Go.Proofs.YtnhhnffolmgceaaGreat.UseC
open Go Go.Maps Go.RowKit SeesC IntsC ExactC OrdMath BesM ListsC ConfIC
set_option linter.unusedVariables false

/-- A map that tells which numbers are of a list. -/
def UseMap (w : World) (b : Nat) (U : List Int) : Prop :=
  ∃ (n : Nat) (D : DataW Value), w.ownsMap Tryz.prog 3 (plainElem Tryz.prog 4) b n D ∧ n ≤ U.length ∧ IsMap D ∧ ∀ x : Int, (Lit.int .i64 x).wf = true → D.atKey (.int .i64 x) (.lit (.bool false)) = .lit (.bool (U.contains x))

theorem keyedI : Keyed Tryz.prog 3 := int_keyed Tryz.underlying3

theorem useMap_new (w : World) : UseMap (w.alloc (.map #[] 0)) w.heap.size [] := by
  refine ⟨0, .map [], World.ownsMap_made _ _ _ _, Nat.le_refl _, isMap_empty, fun x _ => ?_⟩
  rfl

theorem UseMap.kept {w w' : World} {b : Nat} {U : List Int} {row : Option Nat} (h : UseMap w b U) (hg : w.grownBy w' row) (hne : some b ≠ row) : UseMap w' b U := by
  obtain ⟨n, D, h1, h2, h3, h4⟩ := h
  exact ⟨n, D, h1.kept hg hne, h2, h3, h4⟩

theorem UseMap.lt {w : World} {b : Nat} {U : List Int} (h : UseMap w b U) : b < w.heap.size := by
  obtain ⟨n, D, h1, _⟩ := h
  exact h1.lt

theorem zeroB (w : World) : (zeroValue 4).run Tryz.prog w = .ok (.bool false) w := by kernel_rfl

theorem small_wf {x : Int} (h : 0 ≤ x ∧ x < 100) : (Lit.int .i64 x).wf = true := by
  have e1 : IntKind.i64.min = -9223372036854775808 := rfl
  have e2 : IntKind.i64.max = 9223372036854775807 := rfl
  simp [Lit.wf, e1, e2]
  omega

theorem inUse_next {C : List (Nat × Nat)} {so : List Int} {i : Nat} {p : Nat × Nat} (hi : i < C.length) (hp : C.getD i (0, 0) = p) : inUse (C.take (i + 1)) so = inUse (C.take i) so ++ (if p.2 = so.length then [so.getD p.1 0] else []) := by
  have e : C[i] = p := by rw [← hp]; simp [hi]
  unfold inUse
  rw [List.take_succ_eq_append_getElem hi, e, List.filter_append, List.map_append]
  congr 1
  by_cases h : p.2 = so.length
  · rw [if_pos h]
    have : (p.2 == so.length) = true := by rw [beq_iff_eq]; exact h
    simp only [List.filter_cons, this, if_true, List.filter_nil, List.map_cons, List.map_nil]
  · rw [if_neg h]
    have : (p.2 == so.length) = false := by rw [beq_eq_false_iff_ne]; exact h
    simp only [List.filter_cons, this, Bool.false_eq_true, if_false, List.filter_nil, List.map_nil]

theorem UseMap.put {w' : World} {b n : Nat} {D : DataW Value} {U : List Int} {x : Int} (hw : (Lit.int .i64 x).wf = true) (h2 : n ≤ U.length) (h3 : IsMap D) (h4 : ∀ x : Int, (Lit.int .i64 x).wf = true → D.atKey (.int .i64 x) (.lit (.bool false)) = .lit (.bool (U.contains x)))
    (h : w'.ownsMap Tryz.prog 3 (plainElem Tryz.prog 4) b (n + 1) (D.put (.int .i64 x) (.lit (.bool true)))) : UseMap w' b (U ++ [x]) := by
  refine ⟨n + 1, _, h, by simp; omega, IsMap.put h3 _ _, fun y hy => ?_⟩
  · by_cases e : y = x
    · subst e
      rw [atKey_put_same h3 (by trivial)]
      simp
    · rw [atKey_put_other (by intro h; cases h; exact e rfl), h4 y hy]
      have : (U ++ [x]).contains y = U.contains y := by simp [e]
      rw [this]

end Go.Proofs.YtnhhnffolmgceaaGreat.UseC

end
