/-
  Contracts: slices.MinFunc by longerFirst, the program's firstLongest. Conditions: an order.
-/
import Derived.Test.YteiocoahllnoeabLonger
import Derived.Test.YteiocoahllnoeabConcatE
import Derived.Test.YteiocoahllnoeabRowsAny
import Derived.Test.YteiocoahllnoeabAppendTwo
import Derived.Test.YteiocoahllnoeabSame
namespace Go.Proofs.Yteiocoahllnoeab.FirstLC
open Go.RowKit SeesC IntsC ExactC OrdMath OrderC CmpC ListsC ListsEC ListsFC ListsBC LLC AppendTwoC SameC RiseM LongerC ConcatEC RowsAnyC

theorem best_next {rise : Bool} {x : Int} {D : List (List Int)} {j : Nat} (h : j < D.length) : best [] ((D.take (j + 1)).filter fun l => okTo rise l x) = if okTo rise (D.getD j []) x then (if bet (D.getD j []) (best [] ((D.take j).filter fun l => okTo rise l x)) then D.getD j [] else best [] ((D.take j).filter fun l => okTo rise l x)) else best [] ((D.take j).filter fun l => okTo rise l x) := by
  have e : D.take (j + 1) = D.take j ++ [D.getD j []] := by
    rw [List.take_succ_eq_append_getElem h]; simp [h]
  rw [e, List.filter_append]
  by_cases hk : okTo rise (D.getD j []) x = true
  · rw [if_pos hk]
    have e2 : List.filter (fun l => okTo rise l x) [D.getD j []] = [D.getD j []] := by simp only [List.filter_cons, hk]; rfl
    rw [e2, best_snoc]
  · rw [if_neg hk]
    have e2 : List.filter (fun l => okTo rise l x) [D.getD j []] = [] := by simp only [List.filter_cons, hk]; rfl
    rw [e2, List.append_nil]

/-- The least of the first j + 1 lists. -/
def least (L : List (List Int)) : Nat → List Int
  | 0 => L.getD 0 []
  | j + 1 => if bet (L.getD (j + 1) []) (least L j) then L.getD (j + 1) [] else least L j

theorem least_spec (L : List (List Int)) : ∀ j, j < L.length → least L j ∈ L ∧ ∀ i, i ≤ j → Le (least L j) (L.getD i [])
  | 0, h => ⟨by simp [least, h], fun i hi => by have : i = 0 := by omega
                                                subst this; exact Le.refl _⟩
  | j + 1, h => by
    obtain ⟨h1, h2⟩ := least_spec L j (by omega)
    unfold least
    by_cases hb : bet (L.getD (j + 1) []) (least L j) = true
    · rw [if_pos hb]
      refine ⟨by simp [h], fun i hi => ?_⟩
      by_cases hij : i = j + 1
      · subst hij; exact Le.refl _
      · exact (Le.of_bet hb).trans (h2 i (by omega))
    · rw [if_neg hb]
      refine ⟨h1, fun i hi => ?_⟩
      by_cases hij : i = j + 1
      · subst hij; show bet _ _ = false; simpa using hb
      · exact h2 i (by omega)

set_option maxRecDepth 100000 in
set_option maxHeartbeats 4000000 in
theorem minFunc_any (L : List (List Int)) (hpos : ∀ i, i < L.length → 0 < (L.getD i []).length ∧ (L.getD i []).length ≤ 7) (W : World) (base rb : Nat) (v : Value) (hR : RowsAny W base rb v L) (N : Nat) (hN : L.length = N) (hN1 : 1 ≤ N) (hN2 : N ≤ 1000) :
    Calls Try.prog 39 #[v, .func (.func 37) #[] #[]] W fun e w' => ∃ g c m, e = .returned (.slice (some ⟨g, 0, none⟩) m c) ∧ m = (least L (N - 1)).length ∧ w'.ownsRow rb 3 1 (.slice (some ⟨g, 0, none⟩) m c) m (vals (least L (N - 1))) ∧ Below W.heap.size W w' := by
  obtain ⟨vs, hv1, ho, hr⟩ := hR
  rw [hN] at hv1 ho hr hpos
  obtain ⟨g0, c0, rfl⟩ := own_pos ho (by omega)
  have hrow : ∀ i, i < N → ∃ g c, vs.getD i undef = .slice (some ⟨g, 0, none⟩) (L.getD i []).length c := fun i hi => own_pos (hr i hi) (hpos i hi).1
  have hcell : ∀ i, i < N → W.cell? ⟨g0, i, none⟩ = some (vs.getD i undef) := fun i hi => by
    rw [ho.cellAt i (by omega)]; simp [show i < vs.length by omega]
  have hgl := (own_block_lt ho (q := g0) rfl).2
  have HH := Go.Lib.hid (And.intro hr (And.intro hrow (And.intro hcell (And.intro hgl hpos))))
  obtain ⟨ga, ca, hga⟩ := hrow 0 (by omega)
  have hc0 := hcell 0 (by omega)
  have hr0 := hr 0 (by omega)
  rw [hga] at hc0 hr0
  obtain ⟨ma, hma⟩ : ∃ ma, (L.getD 0 []).length = ma := ⟨_, rfl⟩
  rw [hma] at hc0 hr0
  have H0 : Hid (ma = (least L 0).length ∧ W.ownsRow rb 3 1 (.slice (some ⟨ga, 0, none⟩) ma ca) ma (vals (least L 0)) ∧ Below W.heap.size W W) := Go.Lib.hid ⟨hma.symm, hr0, Below.refl _ _⟩
  have hn1 : ¬ (N : Int) < 1 := by omega
  clear hr0 hga hrow hcell hr ho hv1 hpos hgl hma
  go_enter Try.func39, Try.ntmps39
  go_wp2
  go_loopw [5, 6] (fun mv iv wr => ∃ (k g c m : Nat), k + 1 ≤ N ∧ iv = .int .i64 ((k : Int) + 1) ∧ mv = .slice (some ⟨g, 0, none⟩) m c ∧ Hid (m = (least L k).length ∧ wr.ownsRow rb 3 1 (.slice (some ⟨g, 0, none⟩) m c) m (vals (least L k)) ∧ Below W.heap.size W wr)) (fun _ iv _ => N + 1 - (intOf iv).toNat)
  case atStart => exact ⟨0, ga, ca, ma, by omega, rfl, rfl, H0⟩
  case round =>
    obtain ⟨k, g, c, m, hk, rfl, rfl, HX⟩ := hrel
    clear H0 hc0
    obtain ⟨wo, rfl⟩ : ∃ wo, wo = wr := ⟨_, rfl⟩
    by_cases hlt : k + 1 < N
    · obtain ⟨k1, hk1⟩ : ∃ k1, k + 1 = k1 := ⟨_, rfl⟩
      have hk1i : (k : Int) + 1 = (k1 : Int) := by omega
      rw [hk1i]
      obtain ⟨gb, cb, hgb⟩ := HH.out.2.1 k1 (by omega)
      have hck := (HX.out.2.2.cell (p := ⟨g0, k1, none⟩) HH.out.2.2.2.1).trans (HH.out.2.2.1 k1 (by omega))
      have hrk := kept_call (HH.out.1 k1 (by omega)) HX.out.2.2
      have hpk := HH.out.2.2.2.2 k1 (by omega)
      rw [hgb] at hck hrk
      obtain ⟨mb, hmb⟩ : ∃ mb, (L.getD k1 []).length = mb := ⟨_, rfl⟩
      rw [hmb] at hck hrk hpk
      obtain ⟨r, hrr⟩ : ∃ r, bint (L.getD k1 []) (least L k) = r := ⟨_, rfl⟩
      have hm7 : m ≤ 1048576 := by
        have h1 := (least_spec L k (by omega)).1
        obtain ⟨i, hi, e⟩ := List.mem_iff_getElem.1 h1
        have h2 := HH.out.2.2.2.2 i (by omega)
        have e3 : L.getD i [] = L[i] := by simp [hi]
        rw [e3, e] at h2
        have := HX.out.1
        omega
      have CL := Go.Lib.hid (longerFirst_any (L.getD k1 []) (least L k) r hrr wo _ mb (Sees.owns hrk) _ m (Sees.owns HX.out.2.1) hpk.1 (by omega) hm7)
      have hst : least L k1 = if r < 0 then L.getD k1 [] else least L k := by
        rw [← hk1]
        show (if bet (L.getD (k + 1) []) (least L k) then _ else _) = _
        rw [bet_bint, hk1, hrr]
        by_cases h : r < 0 <;> simp [h]
      have HS := Go.Lib.hid (And.intro hst (And.intro hmb hrk))
      have hk1n : (k1 : Int) < (N : Int) := by omega
      clear hst hrk hmb hrr hgb
      by_cases hr0 : r < 0
      · go_wp2_with fail
        refine (CL.out).mono ?_
        rintro e w3 ⟨rfl, hb, _⟩
        have hck3 := (hb.cell (p := ⟨g0, k1, none⟩) (by have := HX.out.2.2.size; have := HH.out.2.2.2.1; show g0 < _; omega)).trans hck
        have H3 : Hid (mb = (least L k1).length ∧ w3.ownsRow rb 3 1 (.slice (some ⟨gb, 0, none⟩) mb cb) mb (vals (least L k1)) ∧ Below W.heap.size W w3) := Go.Lib.hid (by
          have h1 := HS.out.1
          rw [if_pos (by omega)] at h1
          rw [h1]
          exact ⟨HS.out.2.1.symm, kept_call HS.out.2.2 hb, HX.out.2.2.trans (hb.mono HX.out.2.2.size)⟩)
        clear hb hck
        go_wp2_with fail
        go_roundw
        case rel => exact ⟨k1, gb, cb, mb, by omega, by go_num, rfl, H3⟩
        case measure => simp [intOf]; omega
      · go_wp2_with fail
        refine (CL.out).mono ?_
        rintro e w3 ⟨rfl, hb, _⟩
        have H3 : Hid (m = (least L k1).length ∧ w3.ownsRow rb 3 1 (.slice (some ⟨g, 0, none⟩) m c) m (vals (least L k1)) ∧ Below W.heap.size W w3) := Go.Lib.hid (by
          have h1 := HS.out.1
          rw [if_neg (by omega)] at h1
          rw [h1]
          exact ⟨HX.out.1, kept_call HX.out.2.1 hb, HX.out.2.2.trans (hb.mono HX.out.2.2.size)⟩)
        clear hb hck
        go_wp2_with fail
        go_roundw
        case rel => exact ⟨k1, g, c, m, by omega, by go_num, rfl, H3⟩
        case measure => simp [intOf]; omega
    · have hkN : k = N - 1 := by omega
      subst hkN
      have hlti : ¬ ((N - 1 : Nat) : Int) + 1 < (N : Int) := by omega
      go_wp2
      go_ret
      exact ⟨g, c, m, rfl, HX.out⟩

end Go.Proofs.Yteiocoahllnoeab.FirstLC
