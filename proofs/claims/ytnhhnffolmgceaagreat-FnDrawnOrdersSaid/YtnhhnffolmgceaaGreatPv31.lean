/-
  Contracts and plain facts that the laws' texts lean on. Conditions: as each states.
-/
import Derived.Test.YtnhhnffolmgceaaGreatPv14
import Derived.Test.YtnhhnffolmgceaaGreatPv19
import Derived.Test.YtnhhnffolmgceaaGreatPv15
import Derived.Test.YtnhhnffolmgceaaGreatPv2
import Derived.Test.YtnhhnffolmgceaaGreatPv24
import Derived.Test.YtnhhnffolmgceaaGreatPv18

section
namespace Go.Proofs.YtnhhnffolmgceaaGreat.FirstLC
open Go.RowKit SeesC IntsC ExactC OrdMath OrderC CmpC ListsC ListsEC ListsFC ListsBC LLC AppendTwoC SameC RiseM LongerC ConcatEC RowsAnyC

theorem best_next {rise : Bool} {x : Int} {D : List (List Int)} {j : Nat} (h : j < D.length) : best [] ((D.take (j + 1)).filter fun l => okTo rise l x) = if okTo rise (D.getD j []) x then (if bet (D.getD j []) (best [] ((D.take j).filter fun l => okTo rise l x)) then D.getD j [] else best [] ((D.take j).filter fun l => okTo rise l x)) else best [] ((D.take j).filter fun l => okTo rise l x) := by
  have e : D.take (j + 1) = D.take j ++ [D.getD j []] := by
    rw [List.take_succ_eq_append_getElem h]; simp [h]
  rw [e, List.filter_append]
  by_cases hk : okTo rise (D.getD j []) x = true
  · rw [if_pos hk]
    have e2 : List.filter (fun l => okTo rise l x) [D.getD j []] = [D.getD j []] := by simp only [List.filter_cons, hk]; rfl
    rw [e2, best_snoc]
  · rw [if_neg hk]
    have e2 : List.filter (fun l => okTo rise l x) [D.getD j []] = [] := by simp only [List.filter_cons, hk]; rfl
    rw [e2, List.append_nil]

/-- The least of the first j + 1 lists. -/
def least (L : List (List Int)) : Nat → List Int
  | 0 => L.getD 0 []
  | j + 1 => if bet (L.getD (j + 1) []) (least L j) then L.getD (j + 1) [] else least L j

theorem least_spec (L : List (List Int)) : ∀ j, j < L.length → least L j ∈ L ∧ ∀ i, i ≤ j → Le (least L j) (L.getD i [])
  | 0, h => ⟨by simp [least, h], fun i hi => by have : i = 0 := by omega
                                                subst this; exact Le.refl _⟩
  | j + 1, h => by
    obtain ⟨h1, h2⟩ := least_spec L j (by omega)
    unfold least
    by_cases hb : bet (L.getD (j + 1) []) (least L j) = true
    · rw [if_pos hb]
      refine ⟨by simp [h], fun i hi => ?_⟩
      by_cases hij : i = j + 1
      · subst hij; exact Le.refl _
      · exact (Le.of_bet hb).trans (h2 i (by omega))
    · rw [if_neg hb]
      refine ⟨h1, fun i hi => ?_⟩
      by_cases hij : i = j + 1
      · subst hij; show bet _ _ = false; simpa using hb
      · exact h2 i (by omega)

set_option maxRecDepth 100000 in
set_option maxHeartbeats 4000000 in
theorem minFunc_any (L : List (List Int)) (hpos : ∀ i, i < L.length → 0 < (L.getD i []).length ∧ (L.getD i []).length ≤ 7) (W : World) (base rb : Nat) (v : Value) (hR : RowsAny W base rb v L) (N : Nat) (hN : L.length = N) (hN1 : 1 ≤ N) (hN2 : N ≤ 1000) :
    Calls Tryz.prog 89 #[v, .func (.func 87) #[] #[]] W fun e w' => ∃ g c m, e = .returned (.slice (some ⟨g, 0, none⟩) m c) ∧ m = (least L (N - 1)).length ∧ w'.ownsRow rb 3 1 (.slice (some ⟨g, 0, none⟩) m c) m (vals (least L (N - 1))) ∧ Below W.heap.size W w' := by
  obtain ⟨vs, hv1, ho, hr⟩ := hR
  rw [hN] at hv1 ho hr hpos
  obtain ⟨g0, c0, rfl⟩ := own_pos ho (by omega)
  have hrow : ∀ i, i < N → ∃ g c, vs.getD i undef = .slice (some ⟨g, 0, none⟩) (L.getD i []).length c := fun i hi => own_pos (hr i hi) (hpos i hi).1
  have hcell : ∀ i, i < N → W.cell? ⟨g0, i, none⟩ = some (vs.getD i undef) := fun i hi => by
    rw [ho.cellAt i (by omega)]; simp [show i < vs.length by omega]
  have hgl := (own_block_lt ho (q := g0) rfl).2
  have HH := Go.Lib.hid (And.intro hr (And.intro hrow (And.intro hcell (And.intro hgl hpos))))
  obtain ⟨ga, ca, hga⟩ := hrow 0 (by omega)
  have hc0 := hcell 0 (by omega)
  have hr0 := hr 0 (by omega)
  rw [hga] at hc0 hr0
  obtain ⟨ma, hma⟩ : ∃ ma, (L.getD 0 []).length = ma := ⟨_, rfl⟩
  rw [hma] at hc0 hr0
  have H0 : Hid (ma = (least L 0).length ∧ W.ownsRow rb 3 1 (.slice (some ⟨ga, 0, none⟩) ma ca) ma (vals (least L 0)) ∧ Below W.heap.size W W) := Go.Lib.hid ⟨hma.symm, hr0, Below.refl _ _⟩
  have hn1 : ¬ (N : Int) < 1 := by omega
  clear hr0 hga hrow hcell hr ho hv1 hpos hgl hma
  go_enter Tryz.func89, Tryz.ntmps89
  go_wp2
  go_loopw [5, 6] (fun mv iv wr => ∃ (k g c m : Nat), k + 1 ≤ N ∧ iv = .int .i64 ((k : Int) + 1) ∧ mv = .slice (some ⟨g, 0, none⟩) m c ∧ Hid (m = (least L k).length ∧ wr.ownsRow rb 3 1 (.slice (some ⟨g, 0, none⟩) m c) m (vals (least L k)) ∧ Below W.heap.size W wr)) (fun _ iv _ => N + 1 - (intOf iv).toNat)
  case atStart => exact ⟨0, ga, ca, ma, by omega, rfl, rfl, H0⟩
  case round =>
    obtain ⟨k, g, c, m, hk, rfl, rfl, HX⟩ := hrel
    clear H0 hc0
    obtain ⟨wo, rfl⟩ : ∃ wo, wo = wr := ⟨_, rfl⟩
    by_cases hlt : k + 1 < N
    · obtain ⟨k1, hk1⟩ : ∃ k1, k + 1 = k1 := ⟨_, rfl⟩
      have hk1i : (k : Int) + 1 = (k1 : Int) := by omega
      rw [hk1i]
      obtain ⟨gb, cb, hgb⟩ := HH.out.2.1 k1 (by omega)
      have hck := (HX.out.2.2.cell (p := ⟨g0, k1, none⟩) HH.out.2.2.2.1).trans (HH.out.2.2.1 k1 (by omega))
      have hrk := kept_call (HH.out.1 k1 (by omega)) HX.out.2.2
      have hpk := HH.out.2.2.2.2 k1 (by omega)
      rw [hgb] at hck hrk
      obtain ⟨mb, hmb⟩ : ∃ mb, (L.getD k1 []).length = mb := ⟨_, rfl⟩
      rw [hmb] at hck hrk hpk
      obtain ⟨r, hrr⟩ : ∃ r, bint (L.getD k1 []) (least L k) = r := ⟨_, rfl⟩
      have hm7 : m ≤ 1048576 := by
        have h1 := (least_spec L k (by omega)).1
        obtain ⟨i, hi, e⟩ := List.mem_iff_getElem.1 h1
        have h2 := HH.out.2.2.2.2 i (by omega)
        have e3 : L.getD i [] = L[i] := by simp [hi]
        rw [e3, e] at h2
        have := HX.out.1
        omega
      have CL := Go.Lib.hid (longerFirst_any (L.getD k1 []) (least L k) r hrr wo _ mb (Sees.owns hrk) _ m (Sees.owns HX.out.2.1) hpk.1 (by omega) hm7)
      have hst : least L k1 = if r < 0 then L.getD k1 [] else least L k := by
        rw [← hk1]
        show (if bet (L.getD (k + 1) []) (least L k) then _ else _) = _
        rw [bet_bint, hk1, hrr]
        by_cases h : r < 0 <;> simp [h]
      have HS := Go.Lib.hid (And.intro hst (And.intro hmb hrk))
      have hk1n : (k1 : Int) < (N : Int) := by omega
      clear hst hrk hmb hrr hgb
      by_cases hr0 : r < 0
      · go_wp2_with fail
        refine (CL.out).mono ?_
        rintro e w3 ⟨rfl, hb, _⟩
        have hck3 := (hb.cell (p := ⟨g0, k1, none⟩) (by have := HX.out.2.2.size; have := HH.out.2.2.2.1; show g0 < _; omega)).trans hck
        have H3 : Hid (mb = (least L k1).length ∧ w3.ownsRow rb 3 1 (.slice (some ⟨gb, 0, none⟩) mb cb) mb (vals (least L k1)) ∧ Below W.heap.size W w3) := Go.Lib.hid (by
          have h1 := HS.out.1
          rw [if_pos (by omega)] at h1
          rw [h1]
          exact ⟨HS.out.2.1.symm, kept_call HS.out.2.2 hb, HX.out.2.2.trans (hb.mono HX.out.2.2.size)⟩)
        clear hb hck
        go_wp2_with fail
        go_roundw
        case rel => exact ⟨k1, gb, cb, mb, by omega, by go_num, rfl, H3⟩
        case measure => simp [intOf]; omega
      · go_wp2_with fail
        refine (CL.out).mono ?_
        rintro e w3 ⟨rfl, hb, _⟩
        have H3 : Hid (m = (least L k1).length ∧ w3.ownsRow rb 3 1 (.slice (some ⟨g, 0, none⟩) m c) m (vals (least L k1)) ∧ Below W.heap.size W w3) := Go.Lib.hid (by
          have h1 := HS.out.1
          rw [if_neg (by omega)] at h1
          rw [h1]
          exact ⟨HX.out.1, kept_call HX.out.2.1 hb, HX.out.2.2.trans (hb.mono HX.out.2.2.size)⟩)
        clear hb hck
        go_wp2_with fail
        go_roundw
        case rel => exact ⟨k1, g, c, m, by omega, by go_num, rfl, H3⟩
        case measure => simp [intOf]; omega
    · have hkN : k = N - 1 := by omega
      subst hkN
      have hlti : ¬ ((N - 1 : Nat) : Int) + 1 < (N : Int) := by omega
      go_wp2
      go_ret
      exact ⟨g, c, m, rfl, HX.out⟩

end Go.Proofs.YtnhhnffolmgceaaGreat.FirstLC

end

section
namespace Go.Proofs.YtnhhnffolmgceaaGreat.FirstIC
open Go.RowKit SeesC IntsC ExactC OrdMath OrderC CmpC ListsC ListsEC ListsFC ListsBC LLC AppendTwoC SameC RiseM LongerC ConcatEC RowsAnyC FirstLC

theorem okTo_last {rise : Bool} {l : List Int} {x : Int} (h : 0 < l.length) : okTo rise l x = ok rise (l.getD (l.length - 1) 0) x := by
  have e : l.getLast? = some (l.getD (l.length - 1) 0) := by
    rw [List.getLast?_eq_getElem?, List.getElem?_eq_getElem (by omega)]; simp [show l.length - 1 < l.length by omega]
  unfold okTo
  rw [e]

def bst (rise : Bool) (x : Int) (D : List (List Int)) (j : Nat) : List Int := best [] ((D.take j).filter fun l => okTo rise l x)

theorem bst_mem {rise : Bool} {x : Int} {D : List (List Int)} {j : Nat} : bst rise x D j = [] ∨ bst rise x D j ∈ D := by
  rcases (best_spec ((D.take j).filter fun l => okTo rise l x) []).1 with h | h
  · exact .inl h
  · exact .inr (List.mem_of_mem_take (List.mem_filter.1 h).1)

theorem bst_len {rise : Bool} {x : Int} {D : List (List Int)} {j : Nat} (h : ∀ i, i < D.length → (D.getD i []).length ≤ 7) : (bst rise x D j).length ≤ 7 := by
  rcases bst_mem (rise := rise) (x := x) (D := D) (j := j) with e | e
  · rw [e]; simp
  · obtain ⟨i, hi, e2⟩ := List.mem_iff_getElem.1 e
    have h2 := h i hi
    have e3 : D.getD i [] = D[i] := by simp [hi]
    rw [e3, e2] at h2
    exact h2

theorem dps_pos {rise : Bool} {zs : List Int} (h7 : zs.length ≤ 7) {k : Nat} (hk : k ≤ zs.length) : ∀ i, i < (dps rise zs k).length → 0 < ((dps rise zs k).getD i []).length ∧ ((dps rise zs k).getD i []).length ≤ 7 := by
  intro i hi
  have h1 := (dps_spec rise zs k hk).1 ((dps rise zs k).getD i []) (by simp [hi])
  have h2 := h1.2.1.length_le
  rw [List.length_take] at h2
  have h3 := List.length_pos_iff.2 h1.1
  omega

theorem last_cell {w : World} {rb g c t : Nat} {l : List Int} (h : w.ownsRow rb 3 1 (.slice (some ⟨g, 0, none⟩) (t + 1) c) (t + 1) (vals l)) : w.cell? ⟨g, t, none⟩ = some (.int .i64 (l.getD t 0)) := by
  have hl : l.length = t + 1 := by have := (Sees.owns h).1; simpa using this
  obtain ⟨b, o, cap, e, _, _, _, hc⟩ := sees_cells (Sees.owns h) (by omega)
  cases e
  have := hc t (by omega)
  simpa using this

theorem sees_two {w : World} {gb cb m : Nat} {l : List Int} {x : Int} (h : Sees w (.slice (some ⟨gb, 0, none⟩) m cb) m (vals l)) :
    SeesLL ((w.alloc (.cells #[.int .i64 x] 3)).alloc (.cells #[.slice (some ⟨gb, 0, none⟩) m cb, .slice (some ⟨w.heap.size, 0, none⟩) 1 1] 36)) (.slice (some ⟨w.heap.size + 1, 0, none⟩) 2 2) [l, [x]] := by
  have hl : l.length = m := by have := h.1; simpa using this
  have b1 := (Below.refl w.heap.size w).alloc (Nat.le_refl _) (.cells #[.int .i64 x] 3)
  have b2 := b1.alloc (by simp) (.cells #[.slice (some ⟨gb, 0, none⟩) m cb, .slice (some ⟨w.heap.size, 0, none⟩) 1 1] 36)
  have hn := World.alloc_heap_new (w.alloc (.cells #[.int .i64 x] 3)) (.cells #[.slice (some ⟨gb, 0, none⟩) m cb, .slice (some ⟨w.heap.size, 0, none⟩) 1 1] 36)
  rw [World.size_alloc] at hn
  have hn1 := World.alloc_heap_new w (.cells #[.int .i64 x] 3)
  have hk1 := (Below.refl (w.heap.size + 1) (w.alloc (.cells #[.int .i64 x] 3))).alloc (by simp) (.cells #[.slice (some ⟨gb, 0, none⟩) m cb, .slice (some ⟨w.heap.size, 0, none⟩) 1 1] 36)
  refine ⟨[.slice (some ⟨gb, 0, none⟩) m cb, .slice (some ⟨w.heap.size, 0, none⟩) 1 1], rfl, ⟨rfl, _, _, rfl, Nat.le_refl _, fun _ => ⟨_, _, rfl, fun j u hu => ?_⟩⟩, fun i hi => ?_⟩
  · have hj : j = 0 ∨ j = 1 := by
      have := (List.getElem?_eq_some_iff.1 hu).1
      simp at this; omega
    rcases hj with rfl | rfl
    · cases hu
      unfold World.cell?; simp only [hn]; rfl
    · cases hu
      unfold World.cell?; simp only [hn]; rfl
  · have hi2 : i = 0 ∨ i = 1 := by simp at hi; omega
    rcases hi2 with rfl | rfl
    · show Sees _ (.slice (some ⟨gb, 0, none⟩) m cb) l.length (vals l)
      rw [hl]
      exact h.grow b2
    · show Sees _ (.slice (some ⟨w.heap.size, 0, none⟩) 1 1) 1 [.int .i64 x]
      refine Sees.grow (w := w.alloc (.cells #[.int .i64 x] 3)) ⟨rfl, _, _, rfl, Nat.le_refl _, fun _ => ⟨_, _, rfl, fun j u hu => ?_⟩⟩ (by rw [World.size_alloc]; exact hk1)
      have hj : j = 0 := by
        have := (List.getElem?_eq_some_iff.1 hu).1
        simp at this; omega
      subst hj
      cases hu
      unfold World.cell?; simp only [hn1]; rfl

set_option maxRecDepth 100000 in
set_option maxHeartbeats 8000000 in
theorem firstLongest_any (rise : Bool) (fid : FuncId) (hcf : ∀ (args : Array Value) (w : World), Sem.run Tryz.prog (callFunc fid args) w = .ok (.enter fid args) w) (HF : ∀ (a b : Int) (W : World), Calls Tryz.prog fid #[.int .i64 a, .int .i64 b] W fun e w' => e = .returned (.bool (ok rise a b)) ∧ W = w')
    (zs : List Int) (hord : Ord zs) (W : World) (v : Value) (n : Nat) (hv : Sees W v n (vals zs)) :
    Calls Tryz.prog 68 #[v, .func (.func fid) #[] #[]] W fun e w' => ∃ g c m, e = .returned (.slice (some ⟨g, 0, none⟩) m c) ∧ m = (longest rise zs).length ∧ w'.ownsRow W.heap.size 3 1 (.slice (some ⟨g, 0, none⟩) m c) m (vals (longest rise zs)) ∧ Below W.heap.size W w' := by
  have hl : zs.length = n := by simpa using hv.1
  have hn7 : n ≤ 7 := by have := hord.2.1; omega
  have hn1 : 1 ≤ n := by have := hord.1; omega
  obtain ⟨j0, hj, hy0, hy1, hy2⟩ := info_parts infoL
  obtain ⟨bo, oo, capo, rfl, _, _, hbo, hcell⟩ := sees_cells hv (by omega)
  have HC := Go.Lib.hid hcell
  have HCF := Go.Lib.hid hcf
  have HFH := Go.Lib.hid HF
  have HLZ := Go.Lib.hid hl
  have H0 : Hid (RowsAny (W.alloc (.cells #[] 36)) W.heap.size W.heap.size (.slice (some ⟨W.heap.size, 0, none⟩) 0 0) (dps rise zs 0) ∧ Below W.heap.size W (W.alloc (.cells #[] 36))) :=
    Go.Lib.hid ⟨⟨[], rfl, World.ownsRow_made _ _ _ (Nat.le_refl _) (by unfold maxLen; omega) rfl, fun i hi => by simp [dps] at hi⟩, (Below.refl _ _).alloc (Nat.le_refl _) _⟩
  have HDP := Go.Lib.hid (fun k (hk : k ≤ n) => dps_pos (rise := rise) (zs := zs) (by omega) (k := k) (by omega))
  clear hcell hcf HF hl hv hord
  go_enter Tryz.func68, Tryz.ntmps68
  go_wp2
  go_loopw [5, 14] (fun lv iv wr => ∃ (k g c : Nat), k ≤ n ∧ iv = .int .i64 k ∧ lv = .slice (some ⟨g, 0, none⟩) k c ∧ Hid (RowsAny wr W.heap.size W.heap.size (.slice (some ⟨g, 0, none⟩) k c) (dps rise zs k) ∧ Below W.heap.size W wr)) (fun _ iv _ => n - (intOf iv).toNat)
  case atStart => exact ⟨0, W.heap.size, 0, Nat.zero_le _, rfl, rfl, H0⟩
  case round =>
    obtain ⟨k, g, c, hk, rfl, rfl, HX⟩ := hrel
    clear H0
    obtain ⟨wo, rfl⟩ : ∃ wo, wo = wr := ⟨_, rfl⟩
    by_cases hlt : k < n
    · obtain ⟨x, hx⟩ : ∃ x, zs.getD k 0 = x := ⟨_, rfl⟩
      have hckx : wo.cell? ⟨bo, oo + k, none⟩ = some (.int .i64 x) := by rw [← hx]; exact (HX.out.2.cell (p := ⟨bo, oo + k, none⟩) hbo).trans (HC.out k (by have := HLZ.out; omega))
      obtain ⟨D, hD⟩ : ∃ D, dps rise zs k = D := ⟨_, rfl⟩
      have hDl : D.length = k := by rw [← hD]; exact dps_len rise zs k
      have hdn : dps rise zs (k + 1) = D ++ [bst rise x D k ++ [x]] := by
        show dps rise zs k ++ [RiseM.begun rise (zs.getD k 0) (dps rise zs k) ++ [zs.getD k 0]] = _
        rw [hD, hx]
        unfold RiseM.begun bst
        rw [List.take_of_length_le (by omega)]
      have hpos := HDP.out k hk
      rw [hD, hDl] at hpos
      obtain ⟨vs, hv1, ho, hr⟩ := HX.out.1
      rw [hD, hDl] at hv1 ho hr
      have hrow : ∀ i, i < k → ∃ gl cl, vs.getD i undef = .slice (some ⟨gl, 0, none⟩) (D.getD i []).length cl := fun i hi => own_pos (hr i hi) (hpos i hi).1
      have hcl : ∀ i, i < k → wo.cell? ⟨g, i, none⟩ = some (vs.getD i undef) := fun i hi => by
        rw [ho.cellAt i (by omega)]; simp [show i < vs.length by omega]
      have hg := (own_block_lt ho (q := g) rfl).2
      have hb1 := (Below.refl wo.heap.size wo).alloc (Nat.le_refl _) (.cells #[] 3)
      have hbeg : (wo.alloc (.cells #[] 3)).ownsRow wo.heap.size 3 1 (.slice (some ⟨wo.heap.size, 0, none⟩) 0 0) 0 [] := World.ownsRow_made _ _ _ (Nat.le_refl _) (by unfold maxLen; omega) rfl
      obtain ⟨w1, hw1⟩ : ∃ w1, wo.alloc (.cells #[] 3) = w1 := ⟨_, rfl⟩
      have hw1s : w1.heap.size = wo.heap.size + 1 := by rw [← hw1]; simp
      rw [hw1] at hb1 hbeg
      have hWw := HX.out.2.size
      have HH := Go.Lib.hid (And.intro (fun i hi => kept_call (hr i hi) hb1) (And.intro hrow (And.intro (fun i (hi : i < k) => (hb1.cell (p := ⟨g, i, none⟩) hg).trans (hcl i hi)) (And.intro hpos (And.intro (kept_call ho hb1) (And.intro hv1 (And.intro (HX.out.2.trans (hb1.mono hWw)) (And.intro hDl hdn))))))))
      have HB0 : Hid ((0 : Nat) = (bst rise x D 0).length ∧ w1.ownsRow W.heap.size 3 1 (.slice (some ⟨wo.heap.size, 0, none⟩) 0 0) 0 (vals (bst rise x D 0)) ∧ Below w1.heap.size w1 w1) := Go.Lib.hid ⟨rfl, own_lower hbeg hWw, Below.refl _ _⟩
      have hki : (k : Int) < (n : Int) := by omega
      have HW1 := Go.Lib.hid hw1
      clear hrow hcl hr ho hv1 hpos hbeg hb1 hD hx hdn hDl
      go_wp2
      go_loopw [8, 21] (fun bv jv wx => ∃ (j gb cb m : Nat), j ≤ k ∧ jv = .int .i64 j ∧ bv = .slice (some ⟨gb, 0, none⟩) m cb ∧ Hid (m = (bst rise x D j).length ∧ w1.ownsRow W.heap.size 3 1 (.slice (some ⟨gb, 0, none⟩) m cb) m (vals (bst rise x D j)) ∧ Below w1.heap.size w1 wx)) (fun _ jv _ => k - (intOf jv).toNat)
      case atStart => exact ⟨0, wo.heap.size, 0, 0, Nat.zero_le _, rfl, rfl, HB0⟩
      case round =>
        obtain ⟨j, gb, cb, m, hjk, rfl, rfl, HY⟩ := hrel
        clear HB0
        obtain ⟨wx, rfl⟩ : ∃ wx, wx = wr := ⟨_, rfl⟩
        by_cases hjl : j < k
        · obtain ⟨gl, cl, hgl⟩ := HH.out.2.1 j hjl
          have hckl := (HY.out.2.2.cell (p := ⟨g, j, none⟩) (by show g < _; omega)).trans (HH.out.2.2.1 j hjl)
          have hrl := HH.out.1 j hjl
          have hpl := HH.out.2.2.2.1 j hjl
          rw [hgl] at hckl hrl
          obtain ⟨l, hll⟩ : ∃ l, D.getD j [] = l := ⟨_, rfl⟩
          rw [hll] at hckl hrl hpl
          obtain ⟨t, ht⟩ : ∃ t, l.length = t + 1 := ⟨l.length - 1, by omega⟩
          rw [ht] at hckl hrl
          have hlc := last_cell (kept_call hrl HY.out.2.2)
          obtain ⟨y, hy⟩ : ∃ y, l.getD t 0 = y := ⟨_, rfl⟩
          rw [hy] at hlc
          obtain ⟨q, hq⟩ : ∃ q, ok rise y x = q := ⟨_, rfl⟩
          have CF := Go.Lib.hid (HFH.out y x wx)
          rw [hq] at CF
          have hnx : bst rise x D (j + 1) = if q = true then (if bet l (bst rise x D j) then l else bst rise x D j) else bst rise x D j := by
            have h1 := best_next (rise := rise) (x := x) (D := D) (j := j) (by have := HH.out.2.2.2.2.2.2.2.1; omega)
            rw [hll, okTo_last (l := l) (by omega), ht, Nat.add_sub_cancel, hy, hq] at h1
            exact h1
          have hb7 : m ≤ 1048576 := by
            have h1 := bst_len (rise := rise) (x := x) (D := D) (j := j) (fun i hi => (HH.out.2.2.2.1 i (by have := HH.out.2.2.2.2.2.2.2.1; omega)).2)
            have := HY.out.1
            omega
          have ht7 : t ≤ 6 := by omega
          have HN := Go.Lib.hid (And.intro hnx (And.intro hrl (And.intro ht hpl)))
          have hji : (j : Int) < (k : Int) := by omega
          clear hrl hpl ht hnx hy hq hgl hll
          cases q with
          | false =>
            have H3 : Hid (m = (bst rise x D (j + 1)).length ∧ w1.ownsRow W.heap.size 3 1 (.slice (some ⟨gb, 0, none⟩) m cb) m (vals (bst rise x D (j + 1))) ∧ Below w1.heap.size w1 wx) := Go.Lib.hid (by
              have h1 := HN.out.1
              rw [if_neg (by decide)] at h1
              rw [h1]; exact HY.out)
            go_wp2_with fail
            rw [HCF.out, Oper.upon_enter]
            refine (CF.out).mono ?_
            rintro e wq ⟨rfl, hwq⟩
            obtain rfl : wx = wq := hwq
            go_wp2_with fail
            go_roundw
            case rel => exact ⟨j + 1, gb, cb, m, by omega, by go_num, rfl, H3⟩
            case measure => simp [intOf]; omega
          | true =>
            obtain ⟨r, hrr⟩ : ∃ r, bint l (bst rise x D j) = r := ⟨_, rfl⟩
            have CL := Go.Lib.hid (longerFirst_any l (bst rise x D j) r hrr wx _ (t + 1) (Sees.owns (kept_call HN.out.2.1 HY.out.2.2)) _ m (Sees.owns (kept_call HY.out.2.1 HY.out.2.2)) (by omega) (by omega) hb7)
            have hst : bst rise x D (j + 1) = if r < 0 then l else bst rise x D j := by
              rw [HN.out.1, if_pos rfl, bet_bint, hrr]
              by_cases h : r < 0 <;> simp [h]
            have HS := Go.Lib.hid hst
            clear hst hrr
            by_cases hr0 : r < 0
            · go_wp2_with fail
              rw [HCF.out, Oper.upon_enter]
              refine (CF.out).mono ?_
              rintro e wq ⟨rfl, hwq⟩
              obtain rfl : wx = wq := hwq
              go_wp2_with fail
              refine (CL.out).mono ?_
              rintro e w3 ⟨rfl, hb, _⟩
              have H3 : Hid (t + 1 = (bst rise x D (j + 1)).length ∧ w1.ownsRow W.heap.size 3 1 (.slice (some ⟨gl, 0, none⟩) (t + 1) cl) (t + 1) (vals (bst rise x D (j + 1))) ∧ Below w1.heap.size w1 w3) := Go.Lib.hid (by
                have h1 := HS.out
                rw [if_pos (by omega)] at h1
                rw [h1]
                exact ⟨HN.out.2.2.1.symm, HN.out.2.1, HY.out.2.2.trans (hb.mono HY.out.2.2.size)⟩)
              clear hb
              go_wp2_with fail
              go_roundw
              case rel => exact ⟨j + 1, gl, cl, t + 1, by omega, by go_num, by first | rfl | simp, H3⟩
              case measure => simp [intOf]; omega
            · go_wp2_with fail
              rw [HCF.out, Oper.upon_enter]
              refine (CF.out).mono ?_
              rintro e wq ⟨rfl, hwq⟩
              obtain rfl : wx = wq := hwq
              go_wp2_with fail
              refine (CL.out).mono ?_
              rintro e w3 ⟨rfl, hb, _⟩
              have H3 : Hid (m = (bst rise x D (j + 1)).length ∧ w1.ownsRow W.heap.size 3 1 (.slice (some ⟨gb, 0, none⟩) m cb) m (vals (bst rise x D (j + 1))) ∧ Below w1.heap.size w1 w3) := Go.Lib.hid (by
                have h1 := HS.out
                rw [if_neg (by omega)] at h1
                rw [h1]
                exact ⟨HY.out.1, HY.out.2.1, HY.out.2.2.trans (hb.mono HY.out.2.2.size)⟩)
              clear hb
              go_wp2_with fail
              go_roundw
              case rel => exact ⟨j + 1, gb, cb, m, by omega, by go_num, rfl, H3⟩
              case measure => simp [intOf]; omega
        · have hjk2 : j = k := by omega
          subst hjk2
          have hm7 : m ≤ 7 := by
            have h1 := bst_len (rise := rise) (x := x) (D := D) (j := j) (fun i hi => (HH.out.2.2.2.1 i (by have := HH.out.2.2.2.2.2.2.2.1; omega)).2)
            have := HY.out.1
            omega
          have hbX : Below W.heap.size W wx := HH.out.2.2.2.2.2.2.1.trans (HY.out.2.2.mono HH.out.2.2.2.2.2.2.1.size)
          have hsl := sees_two (x := x) (Sees.owns (kept_call HY.out.2.1 HY.out.2.2))
          have htt : tot [bst rise x D j, [x]] = m + 1 := by show (bst rise x D j).length + (1 + 0) = m + 1; have := HY.out.1; omega
          have cc := concatE_any [bst rise x D j, [x]] ((wx.alloc (.cells #[.int .i64 x] 3)).alloc (.cells #[.slice (some ⟨gb, 0, none⟩) m cb, .slice (some ⟨wx.heap.size, 0, none⟩) 1 1] 36)) _ hsl (by rw [htt]; show 2 + _ ≤ _; omega) (fun b o u m' c1 hb hc => by
            simp only [Value.ownBlock, Option.some.injEq] at hb
            subst hb
            have hnew := World.alloc_heap_new (wx.alloc (.cells #[.int .i64 x] 3)) (.cells #[.slice (some ⟨gb, 0, none⟩) m cb, .slice (some ⟨wx.heap.size, 0, none⟩) 1 1] 36)
            rw [World.size_alloc] at hnew
            unfold World.cell? at hc
            simp only [hnew] at hc
            have ho2 : o = 0 ∨ o = 1 := by
              have := (Array.getElem?_eq_some_iff.1 hc).1
              simp at this; omega
            rcases ho2 with rfl | rfl
            · cases hc; exact ⟨_, _, rfl⟩
            · cases hc; exact ⟨_, _, rfl⟩) (by rw [htt]; omega)
          rw [htt] at cc
          have CC := Go.Lib.hid cc
          have bx1 := ((Below.refl wx.heap.size wx).alloc (Nat.le_refl _) (.cells #[.int .i64 x] 3)).alloc (by simp) (.cells #[.slice (some ⟨gb, 0, none⟩) m cb, .slice (some ⟨wx.heap.size, 0, none⟩) 1 1] 36)
          have HBX := Go.Lib.hid (And.intro hbX bx1)
          have hXs := hbX.size
          have hjj : ¬ (j : Int) < (j : Int) := by omega
          clear cc hsl htt hbX bx1
          go_wp2_with fail
          refine (CC.out).mono ?_
          rintro e w7 ⟨g7, c7, rfl, ho7, hb7⟩
          have hb71 : Below wx.heap.size wx w7 := HBX.out.2.trans (hb7.mono HBX.out.2.size)
          have hbW7 : Below w1.heap.size w1 (w7.alloc (.cells #[.slice (some ⟨g7, 0, none⟩) (m + 1) c7] 36)) := (HY.out.2.2.trans (hb71.mono HY.out.2.2.size)).alloc (by have h1 := HY.out.2.2.size; have h2 := hb71.size; omega) _
          have hrowD := kept_call HH.out.2.2.2.2.1 hbW7
          have H7 := Go.Lib.hid (And.intro (ho7.alloc (.cells #[.slice (some ⟨g7, 0, none⟩) (m + 1) c7] 36)) (And.intro hb71 (And.intro hbW7 hrowD)))
          have h7s : wx.heap.size ≤ w7.heap.size := hb71.size
          clear ho7 hb7 hb71 hbW7 hrowD CC
          go_wp2_with (at_builtin; refine wpList_append_two _ rfl _ _ 32 rfl W.heap.size 36 j0 (.slice none 0 0) 1 24 Tryz.underlying32 hj hy0 hy1 hy2 rfl (by decide) _ _ _ rfl H7.out.2.2.2 ⟨w7.heap.size, 0, none⟩ 1 1 [.slice (some ⟨g7, 0, none⟩) (m + 1) c7] rfl rfl (cell_one_new _ _ _) (fun u hu => by simp at hu; subst hu; rfl) (by unfold maxLen; omega) (by omega) (by simp; omega) ?_; intro v8 w8 hown8 hgrow8 hnew8; obtain ⟨g8, c8, rfl⟩ := ownsRow_succ hown8; have H8 := Go.Lib.hid (And.intro hown8 hgrow8); clear hown8 hgrow8 hnew8)
          have HN : Hid (RowsAny w8 W.heap.size W.heap.size (.slice (some ⟨g8, 0, none⟩) (j + 1) c8) (dps rise zs (j + 1)) ∧ Below W.heap.size W w8) := Go.Lib.hid (by
            have hDl := HH.out.2.2.2.2.2.2.2.1
            refine ⟨?_, ?_⟩
            · rw [HH.out.2.2.2.2.2.2.2.2]
              have h9 := H8.out.1
              have h10 := H8.out.2
              refine RowsAny.cat (w := w7.alloc (.cells #[.slice (some ⟨g7, 0, none⟩) (m + 1) c7] 36)) (v := .slice (some ⟨g, 0, none⟩) j c) (vs := vs) (us := [.slice (some ⟨g7, 0, none⟩) (m + 1) c7]) (by rw [hDl]; exact HH.out.2.2.2.2.2.1) (by rw [hDl]; exact H7.out.2.2.2) (fun i hi => kept_call (HH.out.1 i (by omega)) H7.out.2.2.1) rfl (fun i hi => ?_) (by rw [hDl]; exact h9) h10
              have hi0 : i = 0 := by simp at hi; omega
              subst hi0
              have hle : (bst rise x D j ++ [x]).length = m + 1 := by rw [List.length_append, ← HY.out.1]; rfl
              show World.ownsRow _ _ _ _ (.slice (some ⟨g7, 0, none⟩) (m + 1) c7) (bst rise x D j ++ [x]).length (vals (bst rise x D j ++ [x]))
              rw [hle]
              have h11 := H7.out.1
              have e12 : [bst rise x D j, [x]].flatten = bst rise x D j ++ [x] := by simp
              rw [e12] at h11
              exact own_lower h11 (by simp; omega)
            · have hb9 : Below W.heap.size W (w7.alloc (.cells #[.slice (some ⟨g7, 0, none⟩) (m + 1) c7] 36)) := HH.out.2.2.2.2.2.2.1.trans (H7.out.2.2.1.mono HH.out.2.2.2.2.2.2.1.size)
              exact hb9.grown H8.out.2 hb9.size (fun q hq => (own_block_lt H7.out.2.2.2 hq).1))
          go_wp2
          go_roundw
          case rel => exact ⟨j + 1, g8, c8, by omega, by go_num, by first | rfl | simp, HN⟩
          case measure => simp [intOf]; omega
    · have hkn : k = n := by omega
      subst hkn
      have hdl := dps_len rise zs k
      have hls := least_spec (dps rise zs k) (k - 1) (by omega)
      have hlo : longest rise zs = least (dps rise zs k) (k - 1) := by
        have hz := HLZ.out
        subst hz
        refine dps_longest hls.1 (fun l hl => ?_)
        obtain ⟨i, hi, e⟩ := List.mem_iff_getElem.1 hl
        have e2 : (dps rise zs zs.length).getD i [] = l := by rw [← e]; simp [hi]
        rw [← e2]
        exact hls.2 i (by omega)
      have CM := Go.Lib.hid (minFunc_any (dps rise zs k) (HDP.out k (Nat.le_refl _)) wo W.heap.size W.heap.size _ HX.out.1 k hdl hn1 (by omega))
      have HLO := Go.Lib.hid hlo
      have hkk : ¬ (k : Int) < (k : Int) := by omega
      clear hdl hls hlo
      go_wp2_with fail
      refine (CM.out).mono ?_
      rintro e w3 ⟨g3, c3, m3, rfl, hm3, ho3, hb3⟩
      have H3 : Hid (m3 = (longest rise zs).length ∧ w3.ownsRow W.heap.size 3 1 (.slice (some ⟨g3, 0, none⟩) m3 c3) m3 (vals (longest rise zs)) ∧ Below W.heap.size W w3) := Go.Lib.hid (by rw [HLO.out]; exact ⟨hm3, ho3, HX.out.2.trans (hb3.mono HX.out.2.size)⟩)
      clear hm3 ho3 hb3
      go_wp2_with fail
      go_ret
      exact ⟨g3, c3, m3, rfl, H3.out⟩

end Go.Proofs.YtnhhnffolmgceaaGreat.FirstIC

end

section
namespace Go.Proofs.YtnhhnffolmgceaaGreat.RiseIC
open Go.RowKit SeesC IntsC ExactC OrdMath OrderC ListsC ListsBC RiseM FirstIC HasC
set_option linter.unusedVariables false

def longAns (rise : Bool) (zs : List Int) : List Int × Bool := if isOrd zs then (longest rise zs, true) else ([], false)
def riseAns (zs : List Int) : List Int × Bool := longAns true zs

theorem entersLongestRise (args : Array Value) (w : World) : Sem.run Tryz.prog (callFunc 69 args) w = .ok (.enter 69 args) w := run_enter Tryz.func69 (by kernel_rfl) rfl args w

theorem stepLongestRise (a b : Int) (W : World) : Calls Tryz.prog 69 #[.int .i64 a, .int .i64 b] W fun e w' => e = .returned (.bool (ok true a b)) ∧ W = w' := by
  unfold ok
  go_enter Tryz.func69, Tryz.ntmps69
  go_wp2
  go_ret
  exact ⟨rfl, rfl⟩

set_option maxRecDepth 100000 in
set_option maxHeartbeats 4000000 in
theorem implRise (zs : List Int) (xs : List Int) (b : Bool) (h : riseAns zs = (xs, b)) (hz : zs.length ≤ 1048576) (W : World) (v : Value) (n : Nat) (hv : Sees W v n (vals zs)) :
    Calls Tryz.prog 41 #[v] W fun e w' => ListTo W e w' xs b := by
  have hl : zs.length = n := by simpa using hv.1
  obtain ⟨r, hr⟩ : ∃ r, isOrd zs = r := ⟨_, rfl⟩
  have CS := Go.Lib.hid (implOrder_any W v n zs r hv (by omega) hr)
  have HV := Go.Lib.hid hv
  unfold riseAns longAns at h
  rw [hr] at h
  obtain ⟨_, ad, cap, rfl, _, _⟩ := hv
  cases r with
  | false =>
    rw [if_neg (by simp)] at h
    cases h
    clear hr
    go_enter Tryz.func41, Tryz.ntmps41
    go_wp2_with fail
    refine (CS.out).mono ?_
    rintro e w1 ⟨rfl, hd⟩
    have HB1 : Hid (Below W.heap.size W w1) := Go.Lib.hid hd
    clear hd
    go_wp2_with fail
    go_ret2
    exact listTo_below HB1.out (listTo_none _ _)
  | true =>
    rw [if_pos rfl] at h
    cases h
    have ho := (of_decide_eq_true hr : Ord zs)
    have CQ := Go.Lib.hid (fun W' (hb : Below W.heap.size W W') => firstLongest_any true 69 entersLongestRise stepLongestRise zs ho W' (.slice ad n cap) n (HV.out.grow hb))
    clear hr ho
    go_enter Tryz.func41, Tryz.ntmps41
    go_wp2_with fail
    refine (CS.out).mono ?_
    rintro e w1 ⟨rfl, hd⟩
    have HB1 : Hid (Below W.heap.size W w1) := Go.Lib.hid hd
    clear hd CS
    go_wp2_with fail
    refine (CQ.out _ HB1.out).mono ?_
    rintro e w2 ⟨g, c, m, rfl, hm, ho2, hb⟩
    have HO := Go.Lib.hid (And.intro hm (And.intro (own_lower ho2 HB1.out.size) (HB1.out.trans (hb.mono HB1.out.size))))
    clear hm ho2 hb
    go_wp2_with fail
    go_ret2
    exact ⟨_, rfl, by rw [← HO.out.1]; exact HO.out.2.1, HO.out.2.2⟩

end Go.Proofs.YtnhhnffolmgceaaGreat.RiseIC

end
