/-
  Contracts of the laws' own helpers: a suffix of a code with a byte behind it, numbers at some places, whether a number is in a list, lists of lists compared. Conditions: the code has at most 65536 bytes.
-/
import Derived.Test.YtnhhnffolmgceaaGreatPv21
import Derived.Test.YtnhhnffolmgceaaGreatPv15
import Derived.Laws.AppendOwnNone

namespace Go.Proofs.YtnhhnffolmgceaaGreat.VCutC
open Go.RowKit SeesC IntsC ExactC ListsC LLC

theorem run_append_owned_zero {P : Program} {w : World} (base : Nat) (t ty e : TypeId) (i : TypeInfo) (size : Nat) (ht : P.underlying t = some (.slice e)) (hi : P.info? e = some i)
    (v : Value) (n : Nat) (xs : List Value) (hown : w.ownsRow base e size v n xs) (ad : Option Addr) (c : Nat) :
    (Builtin.append_ #[t, t] ty #[v, .slice ad 0 c]).run P w = .ok v w := by
  rcases hown.2 with ⟨rfl, rfl⟩ | ⟨g, cap, cur, rfl, _, _, hnc, _⟩
  · cases ad <;> simp [Builtin.append_, run_underlying ht, sizeOf, typeInfo, hi, Builtin.lenOf, Builtin.firstCells, loadCells, loadCellsFrom]
  · cases ad <;> simp [Builtin.append_, run_underlying ht, sizeOf, typeInfo, hi, Builtin.lenOf, Builtin.firstCells, hnc, storeCells, loadCells, loadCellsFrom]

theorem wpList_append_own_zero {P : Program} {w : World} {ops : Array Oper} {rest : List Oper} {o : Oper} {a : Act} {Q : Exit → Act → World → Prop} (hgd : o.guard = none) (s x : Operand) (t : TypeId)
    (ho : o.op = .call { callee := .builtin .append, args := #[s, x], argTypes := #[t, t] })
    (base : Nat) (e : TypeId) (i : TypeInfo) (size : Nat) (ht : P.underlying t = some (.slice e)) (hi : P.info? e = some i)
    (v : Value) (n : Nat) (xs : List Value) (hs : a.eval s = v) (hown : w.ownsRow base e size v n xs) (ad : Option Addr) (c : Nat) (hx : a.eval x = .slice ad 0 c)
    (h : wpList P ops Q rest (a.put o.dst v) w) : wpList P ops Q (o :: rest) a w := by
  refine wpList_plain hgd fun K hK => ?_
  have hrun := run_append_owned_zero (P := P) (w := w) base t o.type e i size ht hi v n xs hown ad c
  unfold Oper.wp
  simp [execOp, ho, resolve, invoke, builtin, hs, hx, hrun, Result.andThen]
  exact hK _ _ h
theorem infoU : (Tryz.prog.info? 5).map (fun i => (i.zero, i.size, i.bytes)) = some (some (.int .u8 0), 1, 1) := by kernel_rfl

abbrev uvals (zs : List Int) : List Value := zs.map (Value.int .u8)

/-- A code's suffix. -/
def cut (zs : List Int) (k : Nat) : List Int := zs.drop (min k zs.length) ++ [((min k zs.length : Nat) : Int)]

theorem cut_bd {zs : List Int} {k : Nat} (hk : k ≤ 200) (h : ∀ z ∈ zs, 0 ≤ z ∧ z ≤ 255) : ∀ z ∈ cut zs k, 0 ≤ z ∧ z ≤ 255 := by
  intro z hz
  unfold cut at hz
  rw [List.mem_append, List.mem_singleton] at hz
  rcases hz with hz | rfl
  · exact h z (List.mem_of_mem_drop hz)
  · omega

theorem cut_len {zs : List Int} {k : Nat} (hk : 1 ≤ k) (h : zs.length ≤ 65536) : (cut zs k).length ≤ 65536 := by
  unfold cut
  simp
  omega

set_option maxRecDepth 100000 in
set_option maxHeartbeats 2000000 in
theorem vCut_any (zs : List Int) (k : Nat) (hk1 : 1 ≤ k) (hk : k ≤ 200) (W : World) (v : Value) (n : Nat) (hv : Sees W v n (uvals zs)) (hn : n ≤ 65536) :
    Calls Tryz.prog 15 #[v, .int .i64 k] W fun e w' => ∃ u, e = .returned u ∧ w'.ownsRow W.heap.size 5 1 u (cut zs k).length (uvals (cut zs k)) ∧ Below W.heap.size W w' := by
  obtain ⟨i0, hi, hz0, hz1, hz2⟩ := info_parts infoU
  have hl : zs.length = n := by simpa using hv.1
  obtain ⟨_, ad, cap, rfl, hcap, hc⟩ := hv
  have hO0 := World.ownsRow_made (base := W.heap.size) (e := 5) (size := 1) W #[] 0 (Nat.le_refl _) (by unfold maxLen; omega) rfl
  have hB0 : Below W.heap.size W (W.alloc (.cells #[] 5)) := (Below.refl _ _).alloc (Nat.le_refl _) _
  have FIN : ∀ (m : Nat), n ≤ k → m = n → ∀ (v2 : Value) (w2 : World), w2.ownsRow W.heap.size 5 1 v2 (0 + 1) ([] ++ [.int .u8 (m : Int)]) → ((W.alloc (.cells #[] 5)).alloc (.cells #[.int .u8 (m : Int)] 5)).grownBy w2 (some W.heap.size) →
      w2.ownsRow W.heap.size 5 1 v2 (cut zs k).length (uvals (cut zs k)) ∧ Below W.heap.size W w2 := fun m hnk hm v2 w2 ho hg => by
    have e1 : cut zs k = [(m : Int)] := by
      unfold cut
      have e2 : min k zs.length = n := by omega
      rw [e2, List.drop_of_length_le (by omega), hm]
      rfl
    rw [e1]
    exact ⟨ho, (hB0.alloc (by simp) _).grown hg (by simp; omega) (fun q e => by cases e; exact Nat.le_refl _)⟩
  have HFIN := Go.Lib.hid (And.intro hO0 FIN)
  clear hO0 FIN
  by_cases hnk : n ≤ k
  · have hw8 : IntKind.u8.wrap (n : Int) = (n : Int) := by
      simp [IntKind.wrap, IntKind.bits, IntKind.signed]
      omega
    by_cases hkn : n = k
    · subst hkn
      have hkni : ¬ (n : Int) < (n : Int) := by omega
      have hcap2 : (n : Int) ≤ (cap : Int) := by omega
      by_cases hcn : n = cap
      · subst hcn
        cases ad
        all_goals
          go_enter Tryz.func15, Tryz.ntmps15
          go_wp2_with (first
            | (at_builtin; refine wpList_append_own_zero rfl _ _ 22 rfl W.heap.size 5 i0 1 Tryz.underlying22 hi (.slice (some ⟨W.heap.size, 0, none⟩) 0 0) 0 [] rfl HFIN.out.1 _ _ rfl ?_)
            | (at_builtin; refine wpList_append_own _ rfl _ _ 22 rfl W.heap.size 5 i0 (.int .u8 0) 1 1 Tryz.underlying22 hi hz0 hz1 hz2 rfl (by decide) (.slice (some ⟨W.heap.size, 0, none⟩) 0 0) 0 [] rfl (HFIN.out.1.alloc _) ⟨W.heap.size + 1, 0, none⟩ 1 1 [.int .u8 (n : Int)] rfl rfl (by have h9 := cell_one_new (W.alloc (.cells #[] 5)) (.int .u8 (n : Int)) 5; simpa using h9) (fun x hx => by simp at hx; subst hx; rfl) (by unfold maxLen; omega) (by omega) (by simp; omega) ?_; intro v2 w2 hown2 hgrow2 hnil2))
          go_ret
          have hf := HFIN.out.2 _ hnk rfl _ _ hown2 hgrow2
          exact ⟨_, rfl, hf.1, hf.2⟩
      · cases ad
        all_goals
          go_enter Tryz.func15, Tryz.ntmps15
          go_wp2_with (first
            | (at_builtin; refine wpList_append_own_zero rfl _ _ 22 rfl W.heap.size 5 i0 1 Tryz.underlying22 hi (.slice (some ⟨W.heap.size, 0, none⟩) 0 0) 0 [] rfl HFIN.out.1 _ _ rfl ?_)
            | (at_builtin; refine wpList_append_own _ rfl _ _ 22 rfl W.heap.size 5 i0 (.int .u8 0) 1 1 Tryz.underlying22 hi hz0 hz1 hz2 rfl (by decide) (.slice (some ⟨W.heap.size, 0, none⟩) 0 0) 0 [] rfl (HFIN.out.1.alloc _) ⟨W.heap.size + 1, 0, none⟩ 1 1 [.int .u8 (n : Int)] rfl rfl (by have h9 := cell_one_new (W.alloc (.cells #[] 5)) (.int .u8 (n : Int)) 5; simpa using h9) (fun x hx => by simp at hx; subst hx; rfl) (by unfold maxLen; omega) (by omega) (by simp; omega) ?_; intro v2 w2 hown2 hgrow2 hnil2))
          go_ret
          have hf := HFIN.out.2 _ hnk rfl _ _ hown2 hgrow2
          exact ⟨_, rfl, hf.1, hf.2⟩
    · have hkni : (n : Int) < (k : Int) := by omega
      have hcap2 : (n : Int) ≤ (cap : Int) := by omega
      by_cases hcn : n = cap
      · subst hcn
        cases ad
        all_goals
          go_enter Tryz.func15, Tryz.ntmps15
          go_wp2_with (first
            | (at_builtin; refine wpList_append_own_zero rfl _ _ 22 rfl W.heap.size 5 i0 1 Tryz.underlying22 hi (.slice (some ⟨W.heap.size, 0, none⟩) 0 0) 0 [] rfl HFIN.out.1 _ _ rfl ?_)
            | (at_builtin; refine wpList_append_own _ rfl _ _ 22 rfl W.heap.size 5 i0 (.int .u8 0) 1 1 Tryz.underlying22 hi hz0 hz1 hz2 rfl (by decide) (.slice (some ⟨W.heap.size, 0, none⟩) 0 0) 0 [] rfl (HFIN.out.1.alloc _) ⟨W.heap.size + 1, 0, none⟩ 1 1 [.int .u8 (n : Int)] rfl rfl (by have h9 := cell_one_new (W.alloc (.cells #[] 5)) (.int .u8 (n : Int)) 5; simpa using h9) (fun x hx => by simp at hx; subst hx; rfl) (by unfold maxLen; omega) (by omega) (by simp; omega) ?_; intro v2 w2 hown2 hgrow2 hnil2))
          go_ret
          have hf := HFIN.out.2 _ hnk rfl _ _ hown2 hgrow2
          exact ⟨_, rfl, hf.1, hf.2⟩
      · cases ad
        all_goals
          go_enter Tryz.func15, Tryz.ntmps15
          go_wp2_with (first
            | (at_builtin; refine wpList_append_own_zero rfl _ _ 22 rfl W.heap.size 5 i0 1 Tryz.underlying22 hi (.slice (some ⟨W.heap.size, 0, none⟩) 0 0) 0 [] rfl HFIN.out.1 _ _ rfl ?_)
            | (at_builtin; refine wpList_append_own _ rfl _ _ 22 rfl W.heap.size 5 i0 (.int .u8 0) 1 1 Tryz.underlying22 hi hz0 hz1 hz2 rfl (by decide) (.slice (some ⟨W.heap.size, 0, none⟩) 0 0) 0 [] rfl (HFIN.out.1.alloc _) ⟨W.heap.size + 1, 0, none⟩ 1 1 [.int .u8 (n : Int)] rfl rfl (by have h9 := cell_one_new (W.alloc (.cells #[] 5)) (.int .u8 (n : Int)) 5; simpa using h9) (fun x hx => by simp at hx; subst hx; rfl) (by unfold maxLen; omega) (by omega) (by simp; omega) ?_; intro v2 w2 hown2 hgrow2 hnil2))
          go_ret
          have hf := HFIN.out.2 _ hnk rfl _ _ hown2 hgrow2
          exact ⟨_, rfl, hf.1, hf.2⟩
  · have hkn : k < n := by omega
    obtain ⟨b, o, rfl, hcell⟩ := hc (by omega)
    have HC := Go.Lib.hid hcell
    clear hc hcell
    have hkni : ¬ (n : Int) < (k : Int) := by omega
    have hkn2 : (k : Int) ≤ (n : Int) := by omega
    have hkc : (k : Int) ≤ (cap : Int) := by omega
    have hck : cap ≠ k := by omega
    have hnk : n ≠ k := by omega
    have hw8 : IntKind.u8.wrap (k : Int) = (k : Int) := by
      simp [IntKind.wrap, IntKind.bits, IntKind.signed]
      omega
    have HN := Go.Lib.hid (fun (X : World) (hX : Below W.heap.size W X) => (fun j u hu => by
      have hj : j < (zs.drop k).length := by have h1 := (List.getElem?_eq_some_iff.1 hu).1; simpa using h1
      rw [List.length_drop] at hj
      have e0 : (⟨b, o + k, none⟩ : Addr).add j = ⟨b, o + (k + j), none⟩ := by rw [← Nat.add_assoc]; unfold Addr.add; split <;> simp_all
      rw [e0]
      have hb2 : b < W.heap.size := by
        obtain ⟨x0, hx0⟩ : ∃ x0, (uvals zs)[0]? = some x0 := ⟨_, List.getElem?_eq_getElem (by rw [List.length_map]; omega)⟩
        exact World.block_lt_of_cell? W _ (HC.out 0 x0 hx0)
      refine (hX.cell (p := ⟨b, o + (k + j), none⟩) hb2).trans (HC.out (k + j) u ?_)
      rw [← hu]
      simp : ∀ j u, (uvals (zs.drop k))[j]? = some u → X.cell? ((⟨b, o + k, none⟩ : Addr).add j) = some u))
    obtain ⟨q, hq⟩ : ∃ q, n - k = q := ⟨_, rfl⟩
    have HQ := Go.Lib.hid hq
    have hq1 : 1 ≤ q ∧ q ≤ 65536 := by omega
    have HL : Hid ((uvals (zs.drop k)).length = q * 1) := Go.Lib.hid (by simp; omega)
    have HO := Go.Lib.hid (And.intro HFIN.out.1 hB0)
    clear hB0
    go_enter Tryz.func15, Tryz.ntmps15
    go_wp2_with (first
      | (at_builtin; refine wpList_append_own _ rfl _ _ 22 rfl W.heap.size 5 i0 (.int .u8 0) 1 1 Tryz.underlying22 hi hz0 hz1 hz2 rfl (by decide) (.slice (some ⟨W.heap.size, 0, none⟩) 0 0) 0 [] rfl HO.out.1 ⟨b, o + k, none⟩ q (cap - k) (uvals (zs.drop k)) rfl HL.out (HN.out _ HO.out.2) (ints_oneCell .u8 _) (by unfold maxLen; omega) (by omega) (by simp) ?_; intro v1 w1 hown1 hgrow1 hnil1)
      | (at_builtin; refine wpList_append_own _ rfl _ _ 22 rfl W.heap.size 5 i0 (.int .u8 0) 1 1 Tryz.underlying22 hi hz0 hz1 hz2 rfl (by decide) v1 (0 + q) ([] ++ uvals (zs.drop k)) rfl (hown1.alloc _) ⟨w1.heap.size, 0, none⟩ 1 1 [.int .u8 (k : Int)] rfl rfl (cell_one_new _ _ _) (fun x hx => by simp at hx; subst hx; rfl) (by unfold maxLen; omega) (by omega) (by have := hgrow1.size; simp at this; simp; omega) ?_; intro v2 w2 hown2 hgrow2 hnil2))
    go_ret
    have hb1 := (HO.out.2).grown hgrow1 (by simp) (fun q e => by cases e; exact Nat.le_refl _)
    refine ⟨v2, rfl, ?_, (hb1.alloc hb1.size _).grown hgrow2 (by have := hb1.size; simp; omega) (fun q e => (hown1.lt q e).1)⟩
    have e1 : cut zs k = zs.drop k ++ [(k : Int)] := by
      unfold cut
      have e2 : min k zs.length = k := by omega
      rw [e2]
    have e3 : (cut zs k).length = 0 + q + 1 := by rw [e1]; simp; have := HQ.out; omega
    rw [e3, e1]
    simpa using hown2

end Go.Proofs.YtnhhnffolmgceaaGreat.VCutC
